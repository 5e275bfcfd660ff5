package tree

import (
	"slices"
	"strings"
	"testing"
)

func TestSplitIsGreatestPowerBelow(t *testing.T) {
	for n := 2; n <= 40; n++ {
		k := split(n)
		if k&(k-1) != 0 || k >= n || 2*k < n {
			t.Errorf("split(%d) = %d", n, k)
		}
	}
}

func row(leaves string) []string { return strings.Split(leaves, "") }

func roots(rows ...string) []string {
	var all []string
	for _, leaves := range rows {
		all = append(all, Root(row(leaves)))
	}
	return all
}

func TestRootOfAWrittenOutTree(t *testing.T) {
	for leaves, want := range map[string]string{"a": "5dbd", "ab": "709b", "abc": "c016", "ABCD": "7fe8", "ABCDE": "21f5", "ABCDEFGH": "4c81"} {
		if got := Root(row(leaves)); got != want {
			t.Errorf("Root(%q) = %q, want %q", leaves, got, want)
		}
	}
	if got := Root(nil); got != "014d" {
		t.Errorf("Root of no leaves = %q", got)
	}
}

func TestLeafPath(t *testing.T) {
	for _, c := range []struct {
		leaves string
		index  int
		want   []string
	}{
		{"a", 0, nil},
		{"ab", 0, roots("b")},
		{"ab", 1, roots("a")},
		{"abcd", 2, roots("d", "ab")},
		{"abcdef", 4, roots("f", "abcd")},
		{"abcdef", 3, roots("c", "ab", "ef")},
		{"abcdefghi", 8, roots("abcdefgh")},
		{"abcdefghi", 0, roots("b", "cd", "efgh", "i")},
	} {
		if got := LeafPath(row(c.leaves), c.index); !slices.Equal(got, c.want) {
			t.Errorf("LeafPath(%q, %d) = %q, want %q", c.leaves, c.index, got, c.want)
		}
	}
}

func TestGrowthPath(t *testing.T) {
	for _, c := range []struct {
		leaves string
		size   int
		want   []string
	}{
		{"a", 1, nil},
		{"abcdef", 6, nil},
		{"abcd", 2, roots("cd")},
		{"abcdef", 4, roots("ef")},
		{"abcdef", 5, roots("e", "f", "abcd")},
		{"abcdef", 2, roots("cd", "ef")},
		{"abcdef", 3, roots("c", "d", "ab", "ef")},
		{"abcdefghi", 8, roots("i")},
		{"abcdefghi", 7, roots("g", "h", "ef", "abcd", "i")},
	} {
		if got := GrowthPath(row(c.leaves), c.size); !slices.Equal(got, c.want) {
			t.Errorf("GrowthPath(%q, %d) = %q, want %q", c.leaves, c.size, got, c.want)
		}
	}
}
