package tree

import (
	"slices"
	"strings"

	"treehead/sums"
)

type side int

const (
	left side = iota
	right
)

// Fold is what a path has come to: of a leaf one root; of a growth two, that of
// the old leaves ahead of that of all. Texts are those of which a sum was taken
// on the way, in that order: where sums fail, two of them tell it.
type Fold struct {
	Roots []string
	Texts []string
}

func (f *Fold) sum(parts ...string) string {
	f.Texts = append(f.Texts, strings.Join(parts, ""))
	return sums.Of(parts...)
}

// standLeft sets a part behind the last root alone: where the old leaves were
// all, nothing stood behind them.
func (f *Fold) standLeft(part string) {
	last := len(f.Roots) - 1
	f.Roots[last] = f.sum("N", f.Roots[last], part)
}

// standRight sets a part ahead of every root: what stands ahead of the old
// leaves was there for them too.
func (f *Fold) standRight(part string) {
	for i, root := range f.Roots {
		f.Roots[i] = f.sum("N", part, root)
	}
}

// climb tells whether there is just one part for each side, and each is a sum.
// It counts first, so that a very long path is not gone through.
func (f *Fold) climb(sides []side, path []string) bool {
	if len(path) != len(sides) {
		return false
	}
	stand := [...]func(*Fold, string){left: (*Fold).standLeft, right: (*Fold).standRight}
	for i, part := range path {
		if !sums.Is(part) {
			return false
		}
		stand[sides[i]](f, part)
	}
	return true
}

// halve goes down to that part of a row of n in which an index stands: on which
// side it is, the index there, and how many leaves it has.
func halve(index, n int) (side, int, int) {
	k := split(n)
	if index < k {
		return left, index, k
	}
	return right, index - k, n - k
}

// leafSides tells, from below, where the leaf at an index of n stands.
func leafSides(index, n int) []side {
	if n == 1 {
		return nil
	}
	at, index, n := halve(index, n)
	return append(leafSides(index, n), at)
}

// growthSides tells, from below, where the greatest part stands that ends with
// the last of the old leaves.
func growthSides(last, n int) []side {
	if last == n-1 {
		return nil
	}
	at, last, n := halve(last, n)
	return append(growthSides(last, n), at)
}

// FoldLeaf is what a leaf, an index (0 to n less 1) and n fold to by a path;
// false, if they do not.
func FoldLeaf(leaf string, index, n int, path []string) (Fold, bool) {
	var f Fold
	f.Roots = []string{f.sum("L", leaf)}
	if !f.climb(leafSides(index, n), path) {
		return Fold{}, false
	}
	return f, true
}

// FoldGrowth is what the old root, size (1 to n) and n fold to by a path: the
// root of the old leaves and that of all; false, if they do not.
func FoldGrowth(old string, size, n int, path []string) (Fold, bool) {
	sides := growthSides(size-1, n)
	start := old
	// Once something stands ahead of it, the part from which the fold starts
	// is not all that was old, and the path has to tell its root.
	if slices.Contains(sides, right) {
		if len(path) == 0 || !sums.Is(path[0]) {
			return Fold{}, false
		}
		start, path = path[0], path[1:]
	}
	f := Fold{Roots: []string{start, start}}
	if !f.climb(sides, path) {
		return Fold{}, false
	}
	return f, true
}
