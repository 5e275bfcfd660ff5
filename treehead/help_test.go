package treehead_test

import (
	"fmt"
	"math"
	"strings"
)

// What the tests hold the calls against is written here anew, by the
// document's words, so that a fault in the program is not on both sides.

func sumOf(text string) string {
	s := 1
	for i := range len(text) {
		s = (s*263 + int(text[i]) + 1) % 65521
	}
	return fmt.Sprintf("%04x", s)
}

func powerBelow(n int) int {
	k := 32
	for k >= n {
		k /= 2
	}
	return k
}

func rootOf(leaves []string) string {
	n := len(leaves)
	if n == 0 {
		return sumOf("E")
	}
	if n == 1 {
		return sumOf("L" + leaves[0])
	}
	k := powerBelow(n)
	return sumOf("N" + rootOf(leaves[:k]) + rootOf(leaves[k:]))
}

// foldLeaf is what a leaf, an index and n fold to; "" if they do not fold.
func foldLeaf(leaf string, index, n int, path []string) string {
	if n == 1 {
		if len(path) != 0 {
			return ""
		}
		return sumOf("L" + leaf)
	}
	if len(path) == 0 {
		return ""
	}
	rest, last := path[:len(path)-1], path[len(path)-1]
	k := powerBelow(n)
	if index < k {
		return sumOf("N" + foldLeaf(leaf, index, k, rest) + last)
	}
	return sumOf("N" + last + foldLeaf(leaf, index-k, n-k, rest))
}

// foldGrowth is what an old root, m and n fold to; "" twice if they do not.
func foldGrowth(old string, m, n int, path []string, whole bool) (string, string) {
	if m == n {
		if whole && len(path) == 0 {
			return old, old
		}
		if !whole && len(path) == 1 {
			return path[0], path[0]
		}
		return "", ""
	}
	if len(path) == 0 {
		return "", ""
	}
	rest, last := path[:len(path)-1], path[len(path)-1]
	k := powerBelow(n)
	if m <= k {
		one, two := foldGrowth(old, m, k, rest, whole)
		return one, sumOf("N" + two + last)
	}
	one, two := foldGrowth(old, m-k, n-k, rest, false)
	return sumOf("N" + last + one), sumOf("N" + last + two)
}

func numbered(n int) []string {
	leaves := make([]string, n)
	for i := range leaves {
		leaves[i] = fmt.Sprint("entry ", i)
	}
	return leaves
}

// oddRow has n leaves that are easily mistaken: empty ones, equal ones, bytes
// that are no characters, the longest, and texts that look like inner ones.
func oddRow(n int) []string {
	kinds := []string{"", "", "\x00", "\xff\xfe", strings.Repeat("\xff", 30), "E", "L", "N5dbd5dbe", "014d", "é"}
	leaves := make([]string, n)
	for i := range leaves {
		leaves[i] = kinds[i%len(kinds)]
	}
	return leaves
}

func letters(text string) []string { return strings.Split(text, "") }

var farNumbers = []int{math.MinInt, math.MinInt + 1, math.MinInt32, -65521, -41, -2, -1, 41, 42, 64, 65521, math.MaxInt32, math.MaxInt - 1, math.MaxInt}

// wrongRows may not be, whatever else is asked of them.
func wrongRows() map[string][]string {
	return map[string][]string{
		"41 leaves":               numbered(41),
		"41 empty leaves":         make([]string, 41),
		"a million leaves":        make([]string, 1000000),
		"31 bytes":                {strings.Repeat("x", 31)},
		"31 bytes at the first":   {strings.Repeat("x", 31), "b", "c"},
		"31 bytes in the middle":  {"a", strings.Repeat("x", 31), "c"},
		"31 bytes at the last":    {"a", "b", strings.Repeat("\x00", 31)},
		"16 characters, 32 bytes": {"a", strings.Repeat("é", 16)},
		"five million bytes":      {"a", strings.Repeat("x", 5000000), "c"},
		"the last of 40":          append(numbered(39), strings.Repeat("x", 31)),
	}
}
