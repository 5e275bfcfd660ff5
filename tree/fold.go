package tree

import (
	"slices"

	"treehead/sums"
)

type side int

const (
	left side = iota
	right
)

// fold is what a path has come to so far: of a leaf one root; of a growth two,
// that of the old leaves ahead of that of all.
type fold struct {
	roots []string
}

// standLeft sets a part behind the last root alone: where the old leaves were
// all, nothing stood behind them.
func (f *fold) standLeft(part string) {
	last := len(f.roots) - 1
	f.roots[last] = sums.Of("N", f.roots[last], part)
}

// standRight sets a part ahead of every root: what stands ahead of the old
// leaves was there for them too.
func (f *fold) standRight(part string) {
	for i, root := range f.roots {
		f.roots[i] = sums.Of("N", part, root)
	}
}

// climb tells whether there is just one part for each side, and each is a sum.
// It counts first, so that a very long path is not gone through.
func (f *fold) climb(sides []side, path []string) bool {
	if len(path) != len(sides) {
		return false
	}
	stand := [...]func(*fold, string){left: (*fold).standLeft, right: (*fold).standRight}
	for i, part := range path {
		if !sums.Is(part) {
			return false
		}
		stand[sides[i]](f, part)
	}
	return true
}

// halve goes down to that part of a row of n in which an index stands: on which
// side it is, the index there, and how many leaves it has.
func halve(index, n int) (side, int, int) {
	k := split(n)
	if index < k {
		return left, index, k
	}
	return right, index - k, n - k
}

// leafSides tells, from below, where the leaf at an index of n stands.
func leafSides(index, n int) []side {
	if n == 1 {
		return nil
	}
	at, index, n := halve(index, n)
	return append(leafSides(index, n), at)
}

// growthSides tells, from below, where the greatest part stands that ends with
// the last of the old leaves.
func growthSides(last, n int) []side {
	if last == n-1 {
		return nil
	}
	at, last, n := halve(last, n)
	return append(growthSides(last, n), at)
}

// FoldLeaf is what a leaf, an index (0 to n less 1) and n fold to by a path;
// false, if they do not.
func FoldLeaf(leaf string, index, n int, path []string) (string, bool) {
	f := fold{roots: []string{sums.Of("L", leaf)}}
	if !f.climb(leafSides(index, n), path) {
		return "", false
	}
	return f.roots[0], true
}

// FoldGrowth is what the old root, size (1 to n) and n fold to by a path: the
// root of the old leaves and that of all; false, if they do not.
func FoldGrowth(old string, size, n int, path []string) (string, string, bool) {
	sides := growthSides(size-1, n)
	start := old
	// Once something stands ahead of it, the part from which the fold starts
	// is not all that was old, and the path has to tell its root.
	if slices.Contains(sides, right) {
		if len(path) == 0 || !sums.Is(path[0]) {
			return "", "", false
		}
		start, path = path[0], path[1:]
	}
	f := fold{roots: []string{start, start}}
	if !f.climb(sides, path) {
		return "", "", false
	}
	return f.roots[0], f.roots[1], true
}
