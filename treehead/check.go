package treehead

import "treehead/api"

func mayBeLeaf(text string) bool { return len(text) <= api.MaxLeaf }

// mayBeRow counts first, so that a very long list is not gone through.
func mayBeRow(leaves []string) bool {
	if len(leaves) > api.MaxLeaves {
		return false
	}
	for _, leaf := range leaves {
		if !mayBeLeaf(leaf) {
			return false
		}
	}
	return true
}
