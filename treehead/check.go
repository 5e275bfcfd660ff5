package treehead

import (
	"treehead/api"
	"treehead/seals"
)

func mayBeLeaf(text string) bool { return len(text) <= api.MaxLeaf }

// mayBeRow counts first, so that a very long list is not gone through.
func mayBeRow(leaves []string) bool {
	if len(leaves) > api.MaxLeaves {
		return false
	}
	for _, leaf := range leaves {
		if !mayBeLeaf(leaf) {
			return false
		}
	}
	return true
}

// mayBeAnswer leaves out the path: that it does not fold is another error.
func mayBeAnswer(a api.Answer) bool {
	if a.Size < 1 || a.Size > api.MaxLeaves {
		return false
	}
	return a.Index >= 0 && a.Index < a.Size && mayBeLeaf(a.Leaf)
}

// open is empty with an error, so that Open can hand out the head as it is.
func open(key int, signed string) (seals.Signed, api.Errno) {
	if !seals.IsKey(key) {
		return seals.Signed{}, api.ErrKey
	}
	read, ok := seals.Read(signed)
	if !ok {
		return seals.Signed{}, api.ErrBytes
	}
	if !read.Right(key) {
		return seals.Signed{}, api.ErrSign
	}
	return read, api.OK
}
