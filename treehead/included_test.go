package treehead_test

import (
	"slices"
	"strings"
	"testing"

	"treehead/api"
	"treehead/treehead"
)

// answerOf is what Include tells of a leaf.
func answerOf(leaves []string, index int) api.Answer {
	path, _ := treehead.Include(leaves, index)
	return api.Answer{Size: len(leaves), Index: index, Leaf: leaves[index], Path: path}
}

// madePath has so many parts, all of them sums.
func madePath(parts int) []string {
	path := make([]string, parts)
	for i := range path {
		path[i] = sumOf(strings.Repeat("part", i+1))
	}
	return path
}

func checkIncluded(t *testing.T, root string, a api.Answer, want api.Errno) {
	t.Helper()
	if got := treehead.Included(root, a); got != want {
		t.Errorf("P6: Included(%.20q, %d of %d, %.40q, %d parts, %.40q) = %d, want %d", root, a.Index, a.Size, a.Leaf, len(a.Path), a.Path[:min(len(a.Path), 8)], got, want)
	}
}

func TestP6EveryPathOfIncludePasses(t *testing.T) {
	for n := 1; n <= 40; n++ {
		for _, leaves := range [][]string{numbered(n), oddRow(n), make([]string, n)} {
			for index := range leaves {
				checkIncluded(t, rootOf(leaves), answerOf(leaves, index), api.OK)
			}
		}
	}
}

func TestP6IncludedAsWrittenOut(t *testing.T) {
	for _, c := range []struct {
		root string
		a    api.Answer
	}{
		{"5dbd", api.Answer{Size: 1, Leaf: "a"}},
		{"0154", api.Answer{Size: 1}},
		{"709b", api.Answer{Size: 2, Index: 0, Leaf: "a", Path: []string{"5dbe"}}},
		{"709b", api.Answer{Size: 2, Index: 1, Leaf: "b", Path: []string{"5dbd"}}},
		{"c016", api.Answer{Size: 3, Index: 1, Leaf: "b", Path: []string{"5dbd", "5dbf"}}},
		{"c016", api.Answer{Size: 3, Index: 2, Leaf: "c", Path: []string{"709b"}}},
	} {
		checkIncluded(t, c.root, c.a, api.OK)
		c.a.Path = append([]string{}, c.a.Path...)
		checkIncluded(t, c.root, c.a, api.OK)
	}
}

// Whoever made a path: what counts is that it folds to the root.
func TestP6IncludedByAnyPath(t *testing.T) {
	for n := 1; n <= 40; n++ {
		for index := range n {
			for parts := range 9 {
				a := api.Answer{Size: n, Index: index, Leaf: "leaf", Path: madePath(parts)}
				root := foldLeaf(a.Leaf, index, n, a.Path)
				if root == "" {
					checkIncluded(t, sumOf("Lleaf"), a, api.ErrProof)
					continue
				}
				checkIncluded(t, root, a, api.OK)
				checkIncluded(t, sumOf(root), a, api.ErrProof)
			}
		}
	}
}

func TestP6IncludedElsewhere(t *testing.T) {
	for n := 1; n <= 17; n++ {
		leaves := numbered(n)
		root := rootOf(leaves)
		for index := range leaves {
			told := answerOf(leaves, index)
			for size := 1; size <= 40; size++ {
				for at := range size {
					a := told
					a.Size, a.Index = size, at
					checkIncluded(t, root, a, wantIncluded(root, a))
				}
			}
		}
	}
}

func TestP6IncludedOtherLeafOrRoot(t *testing.T) {
	for n := 1; n <= 40; n++ {
		leaves := numbered(n)
		root := rootOf(leaves)
		for index := range leaves {
			told := answerOf(leaves, index)
			for _, leaf := range []string{"", "other", told.Leaf + "\x00", told.Leaf[1:], "L" + told.Leaf} {
				a := told
				a.Leaf = leaf
				checkIncluded(t, root, a, api.ErrProof)
			}
			for _, other := range []string{"0000", "ffff", "fff1", rootOf(leaves[:n-1]), rootOf(append(numbered(n), "more")), sumOf("L" + told.Leaf + "x")} {
				checkIncluded(t, other, told, api.ErrProof)
			}
			for _, none := range noSums {
				checkIncluded(t, none, told, api.ErrArg)
			}
		}
	}
}

// The last part of a path belongs to the whole row: without it, a fold that
// stops with the path would come to the root of a part of the row.
func TestP6IncludedByShorterPath(t *testing.T) {
	for n := 2; n <= 40; n++ {
		leaves := numbered(n)
		k := powerBelow(n)
		for index := range leaves {
			told := answerOf(leaves, index)
			last := len(told.Path) - 1
			for _, path := range [][]string{told.Path[:last], told.Path[1:], nil} {
				a := told
				a.Path = path
				for _, root := range []string{rootOf(leaves), rootOf(leaves[:k]), rootOf(leaves[k:]), sumOf("L" + told.Leaf)} {
					checkIncluded(t, root, a, api.ErrProof)
				}
			}
		}
	}
}

func TestP6IncludedByLongerPath(t *testing.T) {
	for n := 1; n <= 40; n++ {
		leaves := numbered(n)
		root := rootOf(leaves)
		for index := range leaves {
			told := answerOf(leaves, index)
			for _, part := range []string{"0000", root, "", sumOf("L" + told.Leaf)} {
				for _, path := range [][]string{append(slices.Clone(told.Path), part), append([]string{part}, told.Path...)} {
					a := told
					a.Path = path
					for _, maybe := range []string{root, sumOf("N" + root + part), sumOf("N" + part + root)} {
						checkIncluded(t, maybe, a, api.ErrProof)
					}
				}
			}
		}
	}
}

// Each root is what the path would fold to, were the part let through.
func TestP6IncludedByPartThatIsNoSum(t *testing.T) {
	for n := 2; n <= 40; n++ {
		leaves := numbered(n)
		for index := range leaves {
			told := answerOf(leaves, index)
			for at := range told.Path {
				none := noSums[(n+index+at)%len(noSums)]
				a := told
				a.Path = slices.Clone(told.Path)
				a.Path[at] = none
				checkIncluded(t, foldLeaf(a.Leaf, index, n, a.Path), a, api.ErrProof)
			}
		}
	}
	for _, none := range noSums {
		a := api.Answer{Size: 2, Index: 1, Leaf: "b", Path: []string{none}}
		checkIncluded(t, foldLeaf("b", 1, 2, a.Path), a, api.ErrProof)
	}
	// A sum by its form, although no text has it.
	a := api.Answer{Size: 2, Index: 1, Leaf: "b", Path: []string{"ffff"}}
	checkIncluded(t, sumOf("Nffff"+sumOf("Lb")), a, api.OK)
}

func TestP6IncludedLongestLeaf(t *testing.T) {
	for _, bytes := range []string{"x", "\x00", "\xff"} {
		leaf := strings.Repeat(bytes, 30)
		checkIncluded(t, sumOf("L"+leaf), api.Answer{Size: 1, Leaf: leaf}, api.OK)
		checkIncluded(t, sumOf("N"+sumOf("La")+sumOf("L"+leaf)), api.Answer{Size: 2, Index: 1, Leaf: leaf, Path: []string{sumOf("La")}}, api.OK)
		leaf += bytes
		checkIncluded(t, sumOf("L"+leaf), api.Answer{Size: 1, Leaf: leaf}, api.ErrArg)
	}
	long := strings.Repeat("é", 16)
	checkIncluded(t, sumOf("L"+long), api.Answer{Size: 1, Leaf: long}, api.ErrArg)
	long = strings.Repeat("x", 5000000)
	checkIncluded(t, sumOf("L"+long), api.Answer{Size: 1, Leaf: long}, api.ErrArg)
}

func TestP6IncludedNumbersOutOfRange(t *testing.T) {
	for parts := range 8 {
		path := madePath(parts)
		for _, root := range []string{sumOf("E"), sumOf("La"), foldLeaf("a", 0, 33, madePath(6)), foldLeaf("a", 40, 41, madePath(2))} {
			for _, size := range append([]int{0}, farNumbers...) {
				for _, index := range append([]int{0, 1, size - 1, size}, farNumbers...) {
					checkIncluded(t, root, api.Answer{Size: size, Index: index, Leaf: "a", Path: path}, api.ErrArg)
				}
			}
			for size := 1; size <= 40; size++ {
				for _, index := range append([]int{size, size + 1}, farNumbers...) {
					checkIncluded(t, root, api.Answer{Size: size, Index: index, Leaf: "a", Path: path}, api.ErrArg)
				}
			}
		}
	}
	forty := make([]string, 40)
	checkIncluded(t, rootOf(forty), answerOf(forty, 39), api.OK)
	more := api.Answer{Size: 41, Index: 0, Leaf: "a", Path: madePath(6)}
	checkIncluded(t, foldLeaf("a", 0, 41, more.Path), more, api.ErrArg)
}

func TestP6IncludedArgumentsAheadOfProof(t *testing.T) {
	wrong := api.Answer{Size: 3, Index: 1, Leaf: "b", Path: []string{"no sum"}}
	checkIncluded(t, "c016", wrong, api.ErrProof)
	checkIncluded(t, "no sum", wrong, api.ErrArg)
	for _, a := range []api.Answer{
		{Size: 0, Index: 0, Leaf: "b", Path: wrong.Path},
		{Size: 41, Index: 1, Leaf: "b", Path: wrong.Path},
		{Size: 3, Index: 3, Leaf: "b", Path: wrong.Path},
		{Size: 3, Index: -1, Leaf: "b", Path: wrong.Path},
		{Size: 3, Index: 1, Leaf: strings.Repeat("b", 31), Path: wrong.Path},
	} {
		checkIncluded(t, "c016", a, api.ErrArg)
	}
}

func TestP6IncludedByVeryLongPath(t *testing.T) {
	for _, path := range [][]string{make([]string, 1000000), madePath(1000), {strings.Repeat("0", 5000000)}} {
		for _, size := range []int{1, 2, 40} {
			checkIncluded(t, "5dbd", api.Answer{Size: size, Leaf: "a", Path: path}, api.ErrProof)
		}
	}
}
