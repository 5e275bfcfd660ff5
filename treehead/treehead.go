// Package treehead: a book that only grows, and those who watch it: see DOC.md.
package treehead

import (
	"treehead/api"
	"treehead/seals"
	"treehead/sums"
	"treehead/tree"
)

// Sum is that of texts, one behind the other (P3).
func Sum(parts ...string) string { return sums.Of(parts...) }

// Root is that of leaves (P4).
func Root(leaves ...string) (string, api.Errno) {
	if !mayBeRow(leaves) {
		return "", api.ErrArg
	}
	return tree.Root(leaves), api.OK
}

// Include makes the path of a leaf (P5).
func Include(leaves []string, index int) ([]string, api.Errno) {
	if !mayBeRow(leaves) || index < 0 || index >= len(leaves) {
		return nil, api.ErrArg
	}
	return tree.LeafPath(leaves, index), api.OK
}

// Extend makes the path from the first leaves to all (P5).
func Extend(leaves []string, size int) ([]string, api.Errno) {
	if !mayBeRow(leaves) || size < 1 || size > len(leaves) {
		return nil, api.ErrArg
	}
	return tree.GrowthPath(leaves, size), api.OK
}

// Included checks that a leaf stands where an answer says (P6).
func Included(root string, a api.Answer) api.Errno {
	if !sums.Is(root) || !mayBeAnswer(a) {
		return api.ErrArg
	}
	folded, ok := foldAnswer(a)
	if !ok || folded.Roots[0] != root {
		return api.ErrProof
	}
	return api.OK
}

// Extended checks that one head is the beginning of another (P6).
func Extended(old, fresh api.Head, path []string) api.Errno {
	if !seals.MayBeHead(old) || !seals.MayBeHead(fresh) || old.Size < 1 || old.Size > fresh.Size {
		return api.ErrArg
	}
	if _, ok := foldHeads(old, fresh, path); !ok {
		return api.ErrProof
	}
	return api.OK
}

// Key is the key of a secret (P7).
func Key(secret int) (int, api.Errno) {
	if !seals.IsSecret(secret) {
		return 0, api.ErrArg
	}
	return seals.KeyOf(secret), api.OK
}

// Sign signs a head (P7).
func Sign(secret, nonce int, h api.Head) (string, api.Errno) {
	if !seals.IsSecret(secret) || !seals.IsSecret(nonce) || !seals.MayBeHead(h) {
		return "", api.ErrArg
	}
	return seals.Sign(secret, nonce, h).Text(), api.OK
}

// Open reads a signed head (P8).
func Open(key int, signed string) (api.Head, api.Errno) {
	opened, err := open(key, signed)
	return opened.Head, err
}

// Evidence makes evidence of two signed heads (P9).
func Evidence(key int, one, two string) (string, api.Errno) {
	first, err := open(key, one)
	if err != api.OK {
		return "", err
	}
	second, err := open(key, two)
	if err != api.OK {
		return "", err
	}
	if first.Head.Size != second.Head.Size {
		return "", api.ErrOther
	}
	if first.Head.Root == second.Head.Root {
		return "", api.ErrSame
	}
	return seals.Evidence(first, second), api.OK
}

// Convicts checks evidence (P9).
func Convicts(key int, evidence string) api.Errno {
	if !seals.IsKey(key) {
		return api.ErrKey
	}
	one, two, ok := seals.ReadEvidence(evidence)
	if !ok {
		return api.ErrBytes
	}
	if !one.Right(key) || !two.Right(key) {
		return api.ErrSign
	}
	return api.OK
}

// Clash shows where a sum failed (P10).
func Clash(one, two api.Answer, path []string) (string, string, api.Errno) {
	if !mayBeAnswer(one) || !mayBeAnswer(two) || one.Index != two.Index || one.Size > two.Size {
		return "", "", api.ErrArg
	}
	texts, ok := foldAll(one, two, path)
	if !ok {
		return "", "", api.ErrProof
	}
	if one.Leaf == two.Leaf {
		return "", "", api.ErrSame
	}
	// There always are two such: the folds meet in the roots, and two leaves
	// cannot come to one root but by two texts of one sum.
	first, second := sums.Clash(texts)
	return first, second, api.OK
}
