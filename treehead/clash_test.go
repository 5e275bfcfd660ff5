package treehead_test

import (
	"fmt"
	"math/rand/v2"
	"slices"
	"strings"
	"testing"

	"treehead/api"
	"treehead/treehead"
)

func checkClash(t *testing.T, one, two api.Answer, path []string, first, second string, want api.Errno) {
	t.Helper()
	x, y, err := treehead.Clash(one, two, path)
	if x != first || y != second || err != want {
		t.Errorf("P10: Clash of %d of %d, %.40q, and %d of %d, %.40q, by %.60q = %q, %q, %d, want %q, %q, %d",
			one.Index, one.Size, one.Leaf, two.Index, two.Size, two.Leaf, path[:min(len(path), 8)], x, y, err, first, second, want)
	}
}

func refusesClash(t *testing.T, one, two api.Answer, path []string, want api.Errno) {
	t.Helper()
	checkClash(t, one, two, path, "", "", want)
}

func alone(leaf string) api.Answer { return api.Answer{Size: 1, Leaf: leaf} }

func TestP10ClashOfLoneLeaves(t *testing.T) {
	for _, leaves := range [][2]string{
		{"\x01\x01", "\xfa\x23"},
		{"ahead\x01\x01behind", "ahead\xfa\x23behind"},
		{"", "\x11\xb8"},
		{strings.Repeat("x", 28) + "\x01\x01", strings.Repeat("x", 28) + "\xfa\x23"},
	} {
		checkClash(t, alone(leaves[0]), alone(leaves[1]), nil, "L"+leaves[0], "L"+leaves[1], api.OK)
		checkClash(t, alone(leaves[1]), alone(leaves[0]), []string{}, "L"+leaves[1], "L"+leaves[0], api.OK)
	}
}

func TestP10ClashOfChangedLeaves(t *testing.T) {
	for n := 1; n <= 40; n++ {
		for m := 1; m <= n; m++ {
			for index := range m {
				one, two, path := twoBooks(m, n, index)
				checkClash(t, one, two, path, "Lx\x01\x01y", "Lx\xfa\x23y", api.OK)
			}
		}
	}
}

// What clashes may be inner texts, and of two levels.
func TestP10ClashAsWrittenOut(t *testing.T) {
	a := api.Answer{Size: 2, Leaf: "a", Path: []string{"0000"}}
	for _, part := range []string{"9dd6", "ba3e", "eb75"} {
		b := api.Answer{Size: 2, Leaf: "b", Path: []string{part}}
		checkClash(t, a, b, nil, "N5dbd0000", "N5dbe"+part, api.OK)
		checkClash(t, b, a, nil, "N5dbe"+part, "N5dbd0000", api.OK)
	}
	// "Lcvgh" has the sum of both texts that are made of the part 1111, and of
	// nothing else; that of the old leaves comes first.
	one := api.Answer{Size: 7, Leaf: "cvgh", Path: []string{"aaaa", "bbbb", "5c07"}}
	two := api.Answer{Size: 8, Leaf: "other", Path: []string{"aaaa", "bbbb", "7223"}}
	checkClash(t, one, two, []string{"000a", "05ac", "1111", "2222"}, "Lcvgh", "N1111000a", api.OK)
	// "Lfdyt" has the sum of an inner text of the new leaves, and of the text of
	// the old leaves around it: the inner one comes first.
	one = api.Answer{Size: 7, Leaf: "fdyt", Path: []string{"aaaa", "bbbb", "2728"}}
	two = api.Answer{Size: 8, Leaf: "other", Path: []string{"aaaa", "bbbb", "eba8"}}
	checkClash(t, one, two, []string{"0000", "13ed", "1111", "2222"}, "Lfdyt", "N000013ed", api.OK)
}

// placeOf tells in whose texts one is first.
func placeOf(text string, each [3][]string) string {
	for i, texts := range each {
		if slices.Contains(texts, text) {
			return []string{"one", "two", "path"}[i]
		}
	}
	return "none"
}

func TestP10ClashOfBentPaths(t *testing.T) {
	d := dealer{Rand: rand.New(rand.NewPCG(10, 12))}
	met := make(map[string]int)
	for i := range 20000 {
		n := 1 + d.IntN(10+i%31)
		m := 1 + d.IntN(n)
		one, two, path, ok := d.clash(m, n, d.IntN(m))
		if !ok {
			continue
		}
		first, second, err := wantClash(one, two, path)
		checkClash(t, one, two, path, first, second, err)
		if err != api.OK {
			met[fmt.Sprint(err)]++
			continue
		}
		if sumOf(first) != sumOf(second) || first == second {
			t.Errorf("P10: %q and %q do not clash", first, second)
		}
		each := textsOf(one, two, path)
		met[placeOf(first, each)+" and "+placeOf(second, each)]++
	}
	for _, place := range []string{"one and one", "one and two", "one and path", "two and two", "two and path"} {
		if met[place] < 20 {
			t.Errorf("only %d texts that clash were of %s: %v", met[place], place, met)
		}
	}
	if met["-1"] > 0 {
		t.Errorf("P10: %d times nothing clashes", met["-1"])
	}
}

func TestP10ClashWrongNumbers(t *testing.T) {
	one, two, path := twoBooks(3, 5, 1)
	checkClash(t, one, two, path, "Lx\x01\x01y", "Lx\xfa\x23y", api.OK)
	for _, far := range append([]int{0}, farNumbers...) {
		for _, change := range []func(a *api.Answer){
			func(a *api.Answer) { a.Size = far },
			func(a *api.Answer) { a.Size, a.Index = far, far-1 },
			func(a *api.Answer) { a.Index = far },
		} {
			changedOne, changedTwo := one, two
			change(&changedOne)
			change(&changedTwo)
			refusesClash(t, changedOne, two, path, api.ErrArg)
			refusesClash(t, one, changedTwo, path, api.ErrArg)
			refusesClash(t, changedOne, changedTwo, path, wantOf(wantClash(changedOne, changedTwo, path)))
		}
	}
}

func wantOf(first, second string, err api.Errno) api.Errno { return err }

// All else is as it should be: only the sizes, indices or leaves are not.
func TestP10ClashArguments(t *testing.T) {
	for _, far := range []int{0, -1, 41, 64} {
		a := api.Answer{Size: far, Leaf: "\x01\x01"}
		b := api.Answer{Size: far, Leaf: "\xfa\x23"}
		refusesClash(t, a, b, nil, api.ErrArg)
	}
	one, two, path := twoBooks(40, 40, 39)
	checkClash(t, one, two, path, "Lx\x01\x01y", "Lx\xfa\x23y", api.OK)
	for _, bytes := range []int{31, 32, 5000000} {
		long, other := alone(strings.Repeat("x", bytes-2)+"\x01\x01"), alone(strings.Repeat("x", bytes-2)+"\xfa\x23")
		refusesClash(t, long, other, nil, api.ErrArg)
		refusesClash(t, alone("short"), long, nil, api.ErrArg)
		refusesClash(t, long, alone("short"), nil, api.ErrArg)
	}
	for n := 2; n <= 12; n++ {
		for index := range n {
			one, two, _ := twoBooks(n, n, index)
			for other := range n {
				elsewhere := answerOf(numbered(n), other)
				if other != index {
					refusesClash(t, one, elsewhere, nil, api.ErrArg)
					refusesClash(t, elsewhere, two, nil, api.ErrArg)
				}
			}
		}
	}
}

func TestP10ClashOfALongerOne(t *testing.T) {
	for n := 2; n <= 20; n++ {
		for m := 1; m < n; m++ {
			one, two, path := twoBooks(m, n, m-1)
			refusesClash(t, two, one, path, api.ErrArg)
			refusesClash(t, two, one, nil, api.ErrArg)
		}
	}
}

func TestP10ClashOfTheSameLeaf(t *testing.T) {
	for n := 1; n <= 12; n++ {
		for m := 1; m <= n; m++ {
			path, _ := treehead.Extend(numbered(n), m)
			for index := range m {
				refusesClash(t, answerOf(numbered(m), index), answerOf(numbered(n), index), path, api.ErrSame)
			}
		}
	}
	// Texts clash here, but not because of two leaves.
	one := api.Answer{Size: 4, Leaf: "a", Path: []string{"5dbd", "0000"}}
	for _, part := range endings("N"+sumOf("N"+sumOf("La")+"5dbe"), rootOfAnswer(one)) {
		two := api.Answer{Size: 4, Leaf: "a", Path: []string{"5dbe", part}}
		refusesClash(t, one, two, nil, api.ErrSame)
	}
	refusesClash(t, alone(""), alone(""), nil, api.ErrSame)
}

// changedPaths has, of a path, those that fold to something else or not at all.
func changedPaths(path []string) [][]string {
	changed := [][]string{append([]string{"0000"}, path...), append(slices.Clone(path), "0000"), append(slices.Clone(path), "")}
	if len(path) > 0 {
		changed = append(changed, nil, path[1:], path[:len(path)-1])
	}
	for at := range path {
		for _, part := range []string{"0000", "ffff", "", "ABCD", path[at] + "0", strings.ToUpper(path[at]) + " "} {
			other := slices.Clone(path)
			other[at] = part
			changed = append(changed, other)
		}
	}
	return changed
}

func TestP10ClashByPathsThatProveNothing(t *testing.T) {
	veryLong := make([]string, 1000000)
	for n := 1; n <= 9; n++ {
		for m := 1; m <= n; m++ {
			for index := range m {
				one, two, path := twoBooks(m, n, index)
				for _, changed := range append(changedPaths(path), veryLong) {
					refusesClash(t, one, two, changed, api.ErrProof)
				}
				for _, changed := range append(changedPaths(one.Path), veryLong) {
					a := one
					a.Path = changed
					refusesClash(t, a, two, path, api.ErrProof)
				}
				for _, changed := range append(changedPaths(two.Path), veryLong) {
					a := two
					a.Path = changed
					refusesClash(t, one, a, path, api.ErrProof)
				}
			}
		}
	}
}

func TestP10ClashOfLeavesThatDoNotPass(t *testing.T) {
	for n := 1; n <= 12; n++ {
		for m := 1; m <= n; m++ {
			for index := range m {
				one, two, path := twoBooks(m, n, index)
				a, b := one, two
				a.Leaf, b.Leaf = "else", "else"
				refusesClash(t, a, two, path, api.ErrProof)
				refusesClash(t, one, b, path, api.ErrProof)
				// With the same leaf in both, the roots are not those of the path
				// where it starts from more than the old root.
				refusesClash(t, a, b, path, wantOf(wantClash(a, b, path)))
			}
		}
	}
}

// A part that is no sum, in a path that would meet the others all the same.
func TestP10ClashByPartsThatAreNoSums(t *testing.T) {
	for _, none := range noSums {
		one := api.Answer{Size: 2, Leaf: "\x01\x01", Path: []string{none}}
		two := api.Answer{Size: 2, Leaf: "\xfa\x23", Path: []string{none}}
		refusesClash(t, one, two, nil, api.ErrProof)
		one = alone("\x01\x01")
		refusesClash(t, one, two, []string{none}, api.ErrProof)
		two.Path = []string{"0000"}
		refusesClash(t, one, two, []string{none}, api.ErrProof)
	}
}

func TestP10ClashErrorsInOrder(t *testing.T) {
	wrong := []string{"no sum"}
	same := api.Answer{Size: 3, Index: 1, Leaf: "b", Path: []string{"5dbd", "5dbf"}}
	torn := api.Answer{Size: 3, Index: 1, Leaf: "b", Path: wrong}
	none := api.Answer{Size: 3, Index: 3, Leaf: "b", Path: wrong}
	refusesClash(t, same, same, nil, api.ErrSame)
	refusesClash(t, same, same, wrong, api.ErrProof)
	refusesClash(t, torn, same, nil, api.ErrProof)
	refusesClash(t, same, torn, nil, api.ErrProof)
	refusesClash(t, torn, torn, nil, api.ErrProof)
	refusesClash(t, none, torn, nil, api.ErrArg)
	refusesClash(t, torn, none, nil, api.ErrArg)
	refusesClash(t, none, none, wrong, api.ErrArg)
	refusesClash(t, api.Answer{}, api.Answer{}, nil, api.ErrArg)
	other, shorter := torn, torn
	other.Index, shorter.Size = 2, 2
	refusesClash(t, torn, other, wrong, api.ErrArg)
	refusesClash(t, torn, shorter, wrong, api.ErrArg)
}
