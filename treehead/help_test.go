package treehead_test

import (
	"fmt"
	"math"
	"strings"

	"treehead/api"
)

// What the tests hold the calls against is written here anew, by the
// document's words, so that a fault in the program is not on both sides.

func sumOf(text string) string {
	s := 1
	for i := range len(text) {
		s = (s*263 + int(text[i]) + 1) % 65521
	}
	return fmt.Sprintf("%04x", s)
}

func powerBelow(n int) int {
	k := 32
	for k >= n {
		k /= 2
	}
	return k
}

func rootOf(leaves []string) string {
	n := len(leaves)
	if n == 0 {
		return sumOf("E")
	}
	if n == 1 {
		return sumOf("L" + leaves[0])
	}
	k := powerBelow(n)
	return sumOf("N" + rootOf(leaves[:k]) + rootOf(leaves[k:]))
}

// foldLeaf is what a leaf, an index and n fold to; "" if they do not. That each
// part must be a sum is not asked here, so that the tests can tell to what a
// path would fold that may not be.
func foldLeaf(leaf string, index, n int, path []string) string {
	if n == 1 {
		if len(path) != 0 {
			return ""
		}
		return sumOf("L" + leaf)
	}
	if len(path) == 0 {
		return ""
	}
	rest, last := path[:len(path)-1], path[len(path)-1]
	k := powerBelow(n)
	if index < k {
		if inner := foldLeaf(leaf, index, k, rest); inner != "" {
			return sumOf("N" + inner + last)
		}
		return ""
	}
	if inner := foldLeaf(leaf, index-k, n-k, rest); inner != "" {
		return sumOf("N" + last + inner)
	}
	return ""
}

// foldGrowth is what an old root, m and n fold to; false if they do not.
func foldGrowth(old string, m, n int, path []string, whole bool) (string, string, bool) {
	if m == n {
		if whole {
			return old, old, len(path) == 0
		}
		if len(path) != 1 {
			return "", "", false
		}
		return path[0], path[0], true
	}
	if len(path) == 0 {
		return "", "", false
	}
	rest, last := path[:len(path)-1], path[len(path)-1]
	k := powerBelow(n)
	if m <= k {
		one, two, ok := foldGrowth(old, m, k, rest, whole)
		return one, sumOf("N" + two + last), ok
	}
	one, two, ok := foldGrowth(old, m-k, n-k, rest, false)
	return sumOf("N" + last + one), sumOf("N" + last + two), ok
}

func isSum(text string) bool {
	for i := range len(text) {
		if !strings.Contains("0123456789abcdef", text[i:i+1]) {
			return false
		}
	}
	return len(text) == 4
}

func areSums(path []string) bool {
	for _, part := range path {
		if !isSum(part) {
			return false
		}
	}
	return true
}

func wantIncluded(root string, a api.Answer) api.Errno {
	if !isSum(root) || a.Size < 1 || a.Size > 40 || a.Index < 0 || a.Index >= a.Size || len(a.Leaf) > 30 {
		return api.ErrArg
	}
	if !areSums(a.Path) || foldLeaf(a.Leaf, a.Index, a.Size, a.Path) != root {
		return api.ErrProof
	}
	return api.OK
}

func wantExtended(old, fresh api.Head, path []string) api.Errno {
	if !isSum(old.Root) || !isSum(fresh.Root) || old.Size < 1 || old.Size > fresh.Size || fresh.Size > 40 {
		return api.ErrArg
	}
	one, two, ok := foldGrowth(old.Root, old.Size, fresh.Size, path, true)
	if !ok || !areSums(path) || one != old.Root || two != fresh.Root {
		return api.ErrProof
	}
	return api.OK
}

func numbered(n int) []string {
	leaves := make([]string, n)
	for i := range leaves {
		leaves[i] = fmt.Sprint("entry ", i)
	}
	return leaves
}

// oddRow has n leaves that are easily mistaken: empty ones, equal ones, bytes
// that are no characters, the longest, and texts that look like inner ones.
func oddRow(n int) []string {
	kinds := []string{"", "", "\x00", "\xff\xfe", strings.Repeat("\xff", 30), "E", "L", "N5dbd5dbe", "014d", "é"}
	leaves := make([]string, n)
	for i := range leaves {
		leaves[i] = kinds[i%len(kinds)]
	}
	return leaves
}

func letters(text string) []string { return strings.Split(text, "") }

var farNumbers = []int{math.MinInt, math.MinInt + 1, math.MinInt32, -65521, -41, -2, -1, 41, 42, 64, 65521, math.MaxInt32, math.MaxInt - 1, math.MaxInt}

// noSums look like sums, more or less.
var noSums = []string{
	"", "0", "abc", "00000", "abcde", "ABCD", "abcD", "000g", "00:0", "/000", "`000", "@000", " 123", "123 ", "12 4", "+123", "-001", "0x1f", "1.00", "12\n4", "1234\n",
	"é12", "\x00\x00\x00\x00", "\xff\xff\xff\xff", "٣٤", strings.Repeat("0", 5000),
}

// wrongRows may not be, whatever else is asked of them.
func wrongRows() map[string][]string {
	return map[string][]string{
		"41 leaves":               numbered(41),
		"41 empty leaves":         make([]string, 41),
		"a million leaves":        make([]string, 1000000),
		"31 bytes":                {strings.Repeat("x", 31)},
		"31 bytes at the first":   {strings.Repeat("x", 31), "b", "c"},
		"31 bytes in the middle":  {"a", strings.Repeat("x", 31), "c"},
		"31 bytes at the last":    {"a", "b", strings.Repeat("\x00", 31)},
		"16 characters, 32 bytes": {"a", strings.Repeat("é", 16)},
		"five million bytes":      {"a", strings.Repeat("x", 5000000), "c"},
		"the last of 40":          append(numbered(39), strings.Repeat("x", 31)),
	}
}
