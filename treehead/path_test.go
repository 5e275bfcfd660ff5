package treehead_test

import (
	"slices"
	"strings"
	"testing"

	"treehead/api"
	"treehead/treehead"
)

func rootsOf(rows ...string) []string {
	var all []string
	for _, row := range rows {
		all = append(all, rootOf(letters(row)))
	}
	return all
}

func TestP5IncludeAsWrittenOut(t *testing.T) {
	for _, c := range []struct {
		leaves string
		index  int
		want   []string
	}{
		{"a", 0, nil},
		{"ab", 0, rootsOf("b")},
		{"ab", 1, rootsOf("a")},
		{"abc", 0, rootsOf("b", "c")},
		{"abc", 1, rootsOf("a", "c")},
		{"abc", 2, rootsOf("ab")},
		{"abcdefg", 0, rootsOf("b", "cd", "efg")},
		{"abcdefg", 4, rootsOf("f", "g", "abcd")},
		{"abcdefg", 6, rootsOf("ef", "abcd")},
	} {
		got, err := treehead.Include(letters(c.leaves), c.index)
		if !slices.Equal(got, c.want) || err != api.OK {
			t.Errorf("P5: Include(%q, %d) = %q, %d, want %q", c.leaves, c.index, got, err, c.want)
		}
	}
}

func TestP5ExtendAsWrittenOut(t *testing.T) {
	for _, c := range []struct {
		leaves string
		size   int
		want   []string
	}{
		{"a", 1, nil},
		{"ab", 1, rootsOf("b")},
		{"ab", 2, nil},
		{"abc", 1, rootsOf("b", "c")},
		{"abc", 2, rootsOf("c")},
		{"abc", 3, nil},
		{"abcdefg", 1, rootsOf("b", "cd", "efg")},
		{"abcdefg", 3, rootsOf("c", "d", "ab", "efg")},
		{"abcdefg", 4, rootsOf("efg")},
		{"abcdefg", 6, rootsOf("ef", "g", "abcd")},
		{"abcdefg", 7, nil},
		{"abcdefgh", 7, rootsOf("g", "h", "ef", "abcd")},
	} {
		got, err := treehead.Extend(letters(c.leaves), c.size)
		if !slices.Equal(got, c.want) || err != api.OK {
			t.Errorf("P5: Extend(%q, %d) = %q, %d, want %q", c.leaves, c.size, got, err, c.want)
		}
	}
}

func TestP5EveryLeafsPathFoldsToTheRoot(t *testing.T) {
	for n := 1; n <= 40; n++ {
		for _, leaves := range [][]string{numbered(n), oddRow(n)} {
			root := rootOf(leaves)
			for index, leaf := range leaves {
				path, err := treehead.Include(leaves, index)
				if err != api.OK || foldLeaf(leaf, index, n, path) != root {
					t.Errorf("P5: Include of %d leaves at %d = %q, %d", n, index, path, err)
				}
			}
		}
	}
}

func TestP5EveryGrowthsPathFoldsToBothRoots(t *testing.T) {
	for n := 1; n <= 40; n++ {
		for _, leaves := range [][]string{numbered(n), oddRow(n)} {
			for size := 1; size <= n; size++ {
				path, err := treehead.Extend(leaves, size)
				old := rootOf(leaves[:size])
				one, two, ok := foldGrowth(old, size, n, path, true)
				if err != api.OK || !ok || one != old || two != rootOf(leaves) {
					t.Errorf("P5: Extend of %d leaves from %d = %q, %d", n, size, path, err)
				}
			}
		}
	}
}

func refusesInclude(t *testing.T, name string, leaves []string, index int) {
	t.Helper()
	if path, err := treehead.Include(leaves, index); path != nil || err != api.ErrArg {
		t.Errorf("P5: Include of %s at %d = %q, %d", name, index, path, err)
	}
}

func refusesExtend(t *testing.T, name string, leaves []string, size int) {
	t.Helper()
	if path, err := treehead.Extend(leaves, size); path != nil || err != api.ErrArg {
		t.Errorf("P5: Extend of %s from %d = %q, %d", name, size, path, err)
	}
}

func TestP5NumbersOutOfRange(t *testing.T) {
	for n := range 41 {
		leaves := numbered(n)
		refusesInclude(t, "a row", leaves, n)
		refusesInclude(t, "a row", leaves, n+1)
		refusesExtend(t, "a row", leaves, 0)
		refusesExtend(t, "a row", leaves, n+1)
		for _, far := range farNumbers {
			refusesInclude(t, "a row", leaves, far)
			refusesExtend(t, "a row", leaves, far)
		}
	}
	refusesInclude(t, "nothing", nil, 0)
	refusesExtend(t, "nothing", nil, 0)
	refusesExtend(t, "nothing", nil, 1)
}

func TestP5WrongRows(t *testing.T) {
	for name, leaves := range wrongRows() {
		for _, number := range append([]int{0, 1, 2, 39, 40, len(leaves) - 1, len(leaves)}, farNumbers...) {
			refusesInclude(t, name, leaves, number)
			refusesExtend(t, name, leaves, number)
		}
	}
}

func TestP5LongestLeaves(t *testing.T) {
	leaves := []string{"a", strings.Repeat("x", 30), "c"}
	path, err := treehead.Include(leaves, 1)
	if err != api.OK || !slices.Equal(path, rootsOf("a", "c")) {
		t.Errorf("P5: Include of a leaf of 30 bytes = %q, %d", path, err)
	}
	path, err = treehead.Extend(leaves, 1)
	if err != api.OK || !slices.Equal(path, []string{rootOf(leaves[1:2]), rootOf(leaves[2:])}) {
		t.Errorf("P5: Extend behind a leaf of 30 bytes = %q, %d", path, err)
	}
}
