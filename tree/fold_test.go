package tree

import (
	"slices"
	"strings"
	"testing"
)

func TestSides(t *testing.T) {
	l, r := left, right
	for _, c := range []struct {
		index, n     int
		leaf, growth []side
	}{
		{0, 1, nil, nil},
		{0, 2, []side{l}, []side{l}},
		{1, 2, []side{r}, nil},
		{1, 3, []side{r, l}, []side{l}},
		{2, 3, []side{r}, nil},
		{2, 4, []side{l, r}, []side{l, r}},
		{4, 7, []side{l, l, r}, []side{l, l, r}},
		{5, 7, []side{r, l, r}, []side{l, r}},
		{39, 40, []side{r, r, r, r}, nil},
		{38, 40, []side{l, r, r, r}, []side{l, r, r, r}},
	} {
		if got := leafSides(c.index, c.n); !slices.Equal(got, c.leaf) {
			t.Errorf("leafSides(%d, %d) = %v, want %v", c.index, c.n, got, c.leaf)
		}
		if got := growthSides(c.index, c.n); !slices.Equal(got, c.growth) {
			t.Errorf("growthSides(%d, %d) = %v, want %v", c.index, c.n, got, c.growth)
		}
	}
}

func TestFoldLeafUndoesLeafPath(t *testing.T) {
	leaves := row("abcdefghijklmnopqrstuvwxyzABCDEFGHIJKLMN")
	for n := 1; n <= len(leaves); n++ {
		for index, leaf := range leaves[:n] {
			path := LeafPath(leaves[:n], index)
			if got, ok := FoldLeaf(leaf, index, n, path); !ok || got != Root(leaves[:n]) {
				t.Errorf("FoldLeaf of %d of %d = %q, %v", index, n, got, ok)
			}
			if got, ok := FoldLeaf(leaf, index, n, append(path, "0000")); ok || got != "" {
				t.Errorf("FoldLeaf of %d of %d, by a longer path, = %q, %v", index, n, got, ok)
			}
		}
	}
}

func TestFoldGrowthUndoesGrowthPath(t *testing.T) {
	leaves := row("abcdefghijklmnopqrstuvwxyzABCDEFGHIJKLMN")
	for n := 1; n <= len(leaves); n++ {
		for size := 1; size <= n; size++ {
			path, old := GrowthPath(leaves[:n], size), Root(leaves[:size])
			first, second, ok := FoldGrowth(old, size, n, path)
			if !ok || first != old || second != Root(leaves[:n]) {
				t.Errorf("FoldGrowth from %d to %d = %q, %q, %v", size, n, first, second, ok)
			}
			first, second, ok = FoldGrowth(old, size, n, append(path, "0000"))
			if ok || first != "" || second != "" {
				t.Errorf("FoldGrowth from %d to %d, by a longer path, = %q, %q, %v", size, n, first, second, ok)
			}
		}
	}
}

func TestFoldsAsWrittenOut(t *testing.T) {
	if got, ok := FoldLeaf("b", 1, 3, roots("a", "c")); !ok || got != "c016" {
		t.Errorf("FoldLeaf = %q, %v", got, ok)
	}
	if first, second, ok := FoldGrowth("709b", 2, 3, roots("c")); !ok || first != "709b" || second != "c016" {
		t.Errorf("FoldGrowth = %q, %q, %v", first, second, ok)
	}
	// The old root is told by the path, and not taken from the caller.
	first, second, ok := FoldGrowth("0000", 3, 4, roots("C", "D", "AB"))
	if !ok || first != Root(row("ABC")) || second != Root(row("ABCD")) {
		t.Errorf("FoldGrowth from 3 to 4 = %q, %q, %v", first, second, ok)
	}
}

func TestFoldsWantSums(t *testing.T) {
	for _, none := range []string{"", "abc", "ABCD", strings.Repeat("0", 100)} {
		for at := range 3 {
			path := roots("a", "b", "c")
			path[at] = none
			if got, ok := FoldLeaf("x", 0, 8, path); ok || got != "" {
				t.Errorf("FoldLeaf by %q = %q, %v", path, got, ok)
			}
			if first, second, ok := FoldGrowth("0000", 3, 4, path); ok || first != "" || second != "" {
				t.Errorf("FoldGrowth by %q = %q, %q, %v", path, first, second, ok)
			}
		}
	}
}

func TestFoldsLeaveThePathAsItWas(t *testing.T) {
	path := roots("C", "D", "AB")
	FoldLeaf("x", 0, 8, path)
	FoldGrowth("0000", 3, 4, path)
	if !slices.Equal(path, roots("C", "D", "AB")) {
		t.Errorf("the path is now %q", path)
	}
}
