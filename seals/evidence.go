package seals

import "strings"

const evidenceMark = "V"

// Evidence is that of two heads of one size and different roots. How it is
// written does not hang on which of them was shown first.
func Evidence(one, other Signed) string {
	if other.Head.Root < one.Head.Root {
		one, other = other, one
	}
	return evidenceMark + one.Text() + other.Text()
}

// ReadEvidence is false, if the text is no evidence; whether the signatures are
// right is not asked.
func ReadEvidence(text string) (Signed, Signed, bool) {
	if len(text) != len(evidenceMark)+2*headBytes || !strings.HasPrefix(text, evidenceMark) {
		return Signed{}, Signed{}, false
	}
	heads := text[len(evidenceMark):]
	lesser, lesserRead := Read(heads[:headBytes])
	greater, greaterRead := Read(heads[headBytes:])
	if !lesserRead || !greaterRead || !inOrder(lesser, greater) {
		return Signed{}, Signed{}, false
	}
	return lesser, greater, true
}

// inOrder refuses two equal roots too: they say the same.
func inOrder(lesser, greater Signed) bool {
	return lesser.Head.Size == greater.Head.Size && lesser.Head.Root < greater.Head.Root
}
