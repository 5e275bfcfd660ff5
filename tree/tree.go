// Package tree: the root of a row of leaves, and the paths that lead to it.
// Rows are only read here, and what they may be is for the caller to check.
package tree

import "treehead/sums"

// split is the greatest power of two below n, n being more than one. The left
// part of a row is so always full, and never changes when the row grows.
func split(n int) int {
	k := 1
	for 2*k < n {
		k *= 2
	}
	return k
}

// Root is that of any row of leaves. The letters ahead keep a leaf from being
// taken for two roots.
func Root(leaves []string) string {
	switch len(leaves) {
	case 0:
		return sums.Of("E")
	case 1:
		return sums.Of("L", leaves[0])
	}
	k := split(len(leaves))
	return sums.Of("N", Root(leaves[:k]), Root(leaves[k:]))
}

// LeafPath is the path of the leaf at an index, from 0 to the number of leaves
// less 1.
func LeafPath(leaves []string, index int) []string {
	if len(leaves) == 1 {
		return nil
	}
	k := split(len(leaves))
	if index < k {
		return append(LeafPath(leaves[:k], index), Root(leaves[k:]))
	}
	return append(LeafPath(leaves[k:], index-k), Root(leaves[:k]))
}

// GrowthPath is the path from the first size leaves, 1 to all, to all of them.
func GrowthPath(leaves []string, size int) []string {
	return parts(leaves, size, true)
}

// parts leaves out the root of the old leaves while whole is so, because who
// reads the path has it already: it is the old root itself.
func parts(leaves []string, size int, whole bool) []string {
	if size == len(leaves) {
		if whole {
			return nil
		}
		return []string{Root(leaves)}
	}
	k := split(len(leaves))
	if size <= k {
		return append(parts(leaves[:k], size, whole), Root(leaves[k:]))
	}
	return append(parts(leaves[k:], size-k, false), Root(leaves[:k]))
}
