package tree

import (
	"slices"
	"strings"
	"testing"
)

func TestSides(t *testing.T) {
	l, r := left, right
	for _, c := range []struct {
		index, n     int
		leaf, growth []side
	}{
		{0, 1, nil, nil},
		{0, 2, []side{l}, []side{l}},
		{1, 2, []side{r}, nil},
		{1, 3, []side{r, l}, []side{l}},
		{2, 3, []side{r}, nil},
		{2, 4, []side{l, r}, []side{l, r}},
		{4, 7, []side{l, l, r}, []side{l, l, r}},
		{5, 7, []side{r, l, r}, []side{l, r}},
		{39, 40, []side{r, r, r, r}, nil},
		{38, 40, []side{l, r, r, r}, []side{l, r, r, r}},
	} {
		if got := leafSides(c.index, c.n); !slices.Equal(got, c.leaf) {
			t.Errorf("leafSides(%d, %d) = %v, want %v", c.index, c.n, got, c.leaf)
		}
		if got := growthSides(c.index, c.n); !slices.Equal(got, c.growth) {
			t.Errorf("growthSides(%d, %d) = %v, want %v", c.index, c.n, got, c.growth)
		}
	}
}

// checkFold takes no roots, if it may not fold.
func checkFold(t *testing.T, name string, got Fold, ok bool, want ...string) {
	t.Helper()
	if ok != (len(want) > 0) || !slices.Equal(got.Roots, want) {
		t.Errorf("%s = %q, %v, want %q", name, got.Roots, ok, want)
	}
	if !ok && got.Texts != nil {
		t.Errorf("%s does not fold, but has the texts %q", name, got.Texts)
	}
}

func TestFoldLeafUndoesLeafPath(t *testing.T) {
	leaves := row("abcdefghijklmnopqrstuvwxyzABCDEFGHIJKLMN")
	for n := 1; n <= len(leaves); n++ {
		for index, leaf := range leaves[:n] {
			path := LeafPath(leaves[:n], index)
			got, ok := FoldLeaf(leaf, index, n, path)
			checkFold(t, "FoldLeaf", got, ok, Root(leaves[:n]))
			got, ok = FoldLeaf(leaf, index, n, append(path, "0000"))
			checkFold(t, "FoldLeaf by a longer path", got, ok)
		}
	}
}

func TestFoldGrowthUndoesGrowthPath(t *testing.T) {
	leaves := row("abcdefghijklmnopqrstuvwxyzABCDEFGHIJKLMN")
	for n := 1; n <= len(leaves); n++ {
		for size := 1; size <= n; size++ {
			path, old := GrowthPath(leaves[:n], size), Root(leaves[:size])
			got, ok := FoldGrowth(old, size, n, path)
			checkFold(t, "FoldGrowth", got, ok, old, Root(leaves[:n]))
			got, ok = FoldGrowth(old, size, n, append(path, "0000"))
			checkFold(t, "FoldGrowth by a longer path", got, ok)
		}
	}
}

func TestFoldsAsWrittenOut(t *testing.T) {
	got, ok := FoldLeaf("b", 1, 3, roots("a", "c"))
	checkFold(t, "FoldLeaf", got, ok, "c016")
	got, ok = FoldGrowth("709b", 2, 3, roots("c"))
	checkFold(t, "FoldGrowth", got, ok, "709b", "c016")
	// The old root is told by the path, and not taken from the caller.
	got, ok = FoldGrowth("0000", 3, 4, roots("C", "D", "AB"))
	checkFold(t, "FoldGrowth from 3 to 4", got, ok, Root(row("ABC")), Root(row("ABCD")))
}

func TestFoldsTellTheTextsFromBelow(t *testing.T) {
	of := func(rows ...string) string { return "N" + strings.Join(roots(rows...), "") }
	for _, c := range []struct {
		name string
		fold func() (Fold, bool)
		want []string
	}{
		{"a lone leaf", func() (Fold, bool) { return FoldLeaf("a", 0, 1, nil) }, []string{"La"}},
		{"an empty leaf", func() (Fold, bool) { return FoldLeaf("", 0, 1, nil) }, []string{"L"}},
		{"a leaf of three", func() (Fold, bool) { return FoldLeaf("b", 1, 3, roots("a", "c")) }, []string{"Lb", of("a", "b"), of("ab", "c")}},
		{"the last of three", func() (Fold, bool) { return FoldLeaf("c", 2, 3, roots("ab")) }, []string{"Lc", of("ab", "c")}},
		{"nothing new", func() (Fold, bool) { return FoldGrowth("0000", 3, 3, nil) }, nil},
		{"from 2 to 3", func() (Fold, bool) { return FoldGrowth(Root(row("ab")), 2, 3, roots("c")) }, []string{of("ab", "c")}},
		{"from 3 to 4", func() (Fold, bool) { return FoldGrowth("0000", 3, 4, roots("c", "d", "ab")) }, []string{of("c", "d"), of("ab", "c"), of("ab", "cd")}},
		{"from 3 to 5", func() (Fold, bool) { return FoldGrowth("0000", 3, 5, roots("c", "d", "ab", "e")) }, []string{of("c", "d"), of("ab", "c"), of("ab", "cd"), of("abcd", "e")}},
		{"from 6 to 7", func() (Fold, bool) { return FoldGrowth("0000", 6, 7, roots("ef", "g", "abcd")) }, []string{of("ef", "g"), of("abcd", "ef"), of("abcd", "efg")}},
	} {
		if got, ok := c.fold(); !ok || !slices.Equal(got.Texts, c.want) {
			t.Errorf("%s: the texts are %q, %v, want %q", c.name, got.Texts, ok, c.want)
		}
	}
}

func TestFoldsWantSums(t *testing.T) {
	for _, none := range []string{"", "abc", "ABCD", strings.Repeat("0", 100)} {
		for at := range 3 {
			path := roots("a", "b", "c")
			path[at] = none
			got, ok := FoldLeaf("x", 0, 8, path)
			checkFold(t, "FoldLeaf", got, ok)
			got, ok = FoldGrowth("0000", 3, 4, path)
			checkFold(t, "FoldGrowth", got, ok)
		}
	}
}

func TestFoldsLeaveThePathAsItWas(t *testing.T) {
	path := roots("C", "D", "AB")
	FoldLeaf("x", 0, 8, path)
	FoldGrowth("0000", 3, 4, path)
	if !slices.Equal(path, roots("C", "D", "AB")) {
		t.Errorf("the path is now %q", path)
	}
}
