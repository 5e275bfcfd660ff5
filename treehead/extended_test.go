package treehead_test

import (
	"slices"
	"strings"
	"testing"

	"treehead/api"
	"treehead/treehead"
)

func headOf(leaves []string) api.Head {
	return api.Head{Size: len(leaves), Root: rootOf(leaves)}
}

func checkExtended(t *testing.T, old, fresh api.Head, path []string, want api.Errno) {
	t.Helper()
	if got := treehead.Extended(old, fresh, path); got != want {
		t.Errorf("P6: Extended(%d %.20q, %d %.20q, %d parts, %.40q) = %d, want %d", old.Size, old.Root, fresh.Size, fresh.Root, len(path), path[:min(len(path), 8)], got, want)
	}
}

// everyGrowth hands on the heads of each beginning of each row, and the path.
func everyGrowth(each func(old, fresh api.Head, path []string)) {
	for n := 1; n <= 40; n++ {
		for _, leaves := range [][]string{numbered(n), oddRow(n)} {
			fresh := headOf(leaves)
			for size := 1; size <= n; size++ {
				path, _ := treehead.Extend(leaves, size)
				each(headOf(leaves[:size]), fresh, path)
			}
		}
	}
}

func TestP6EveryPathOfExtendPasses(t *testing.T) {
	everyGrowth(func(old, fresh api.Head, path []string) {
		checkExtended(t, old, fresh, path, api.OK)
	})
}

func TestP6ExtendedAsWrittenOut(t *testing.T) {
	for _, c := range []struct {
		old, fresh api.Head
		path       []string
	}{
		{api.Head{Size: 1, Root: "5dbd"}, api.Head{Size: 1, Root: "5dbd"}, nil},
		{api.Head{Size: 40, Root: "ffff"}, api.Head{Size: 40, Root: "ffff"}, []string{}},
		{api.Head{Size: 1, Root: "5dbd"}, api.Head{Size: 2, Root: "709b"}, []string{"5dbe"}},
		{api.Head{Size: 1, Root: "5dbd"}, api.Head{Size: 3, Root: "c016"}, []string{"5dbe", "5dbf"}},
		{api.Head{Size: 2, Root: "709b"}, api.Head{Size: 3, Root: "c016"}, []string{"5dbf"}},
		{api.Head{Size: 3, Root: "bef8"}, api.Head{Size: 4, Root: "7fe8"}, []string{sumOf("LC"), sumOf("LD"), "0ee8"}},
		{api.Head{Size: 4, Root: "7fe8"}, api.Head{Size: 5, Root: "21f5"}, []string{sumOf("LE")}},
	} {
		checkExtended(t, c.old, c.fresh, c.path, api.OK)
		if c.old != c.fresh {
			checkExtended(t, c.fresh, c.old, c.path, api.ErrArg)
			checkExtended(t, c.old, c.fresh, nil, api.ErrProof)
		}
	}
}

// Whoever made a path: what counts is that it folds to the two roots.
func TestP6ExtendedByAnyPath(t *testing.T) {
	for n := 1; n <= 40; n++ {
		for m := 1; m <= n; m++ {
			for parts := range 10 {
				path := madePath(parts)
				one, two, ok := foldGrowth("1234", m, n, path, true)
				if !ok {
					checkExtended(t, api.Head{Size: m, Root: "1234"}, api.Head{Size: n, Root: "1234"}, path, api.ErrProof)
					continue
				}
				checkExtended(t, api.Head{Size: m, Root: one}, api.Head{Size: n, Root: two}, path, api.OK)
				checkExtended(t, api.Head{Size: m, Root: sumOf(one)}, api.Head{Size: n, Root: two}, path, api.ErrProof)
				checkExtended(t, api.Head{Size: m, Root: one}, api.Head{Size: n, Root: sumOf(two)}, path, api.ErrProof)
				if m < n {
					checkExtended(t, api.Head{Size: m, Root: two}, api.Head{Size: n, Root: one}, path, api.ErrProof)
				}
			}
		}
	}
}

func TestP6ExtendedElsewhere(t *testing.T) {
	leaves := numbered(40)
	for n := 1; n <= 12; n++ {
		for size := 1; size <= n; size++ {
			path, _ := treehead.Extend(leaves[:n], size)
			for fresh := 1; fresh <= 17; fresh++ {
				for old := 1; old <= 17; old++ {
					one, two := api.Head{Size: old, Root: rootOf(leaves[:size])}, api.Head{Size: fresh, Root: rootOf(leaves[:n])}
					checkExtended(t, one, two, path, wantExtended(one, two, path))
				}
			}
		}
	}
}

func TestP6ExtendedOtherRoots(t *testing.T) {
	everyGrowth(func(old, fresh api.Head, path []string) {
		for _, other := range []string{"0000", "fff1", "ffff", sumOf("E"), sumOf(old.Root)} {
			changed := api.Head{Size: old.Size, Root: other}
			checkExtended(t, changed, fresh, path, api.ErrProof)
			changed = api.Head{Size: fresh.Size, Root: other}
			checkExtended(t, old, changed, path, api.ErrProof)
		}
	})
}

func TestP6ExtendedRootsThatAreNoSums(t *testing.T) {
	for _, none := range noSums {
		for _, size := range []int{1, 2, 3, 40} {
			bad, good := api.Head{Size: size, Root: none}, api.Head{Size: size, Root: "0000"}
			checkExtended(t, bad, good, nil, api.ErrArg)
			checkExtended(t, good, bad, nil, api.ErrArg)
			checkExtended(t, bad, bad, nil, api.ErrArg)
		}
		two := sumOf("N" + none + "5dbe")
		checkExtended(t, api.Head{Size: 1, Root: none}, api.Head{Size: 2, Root: two}, []string{"5dbe"}, api.ErrArg)
	}
}

func TestP6ExtendedByShorterPath(t *testing.T) {
	everyGrowth(func(old, fresh api.Head, path []string) {
		if old.Size == fresh.Size {
			return
		}
		shorter := path[:len(path)-1]
		for _, root := range []string{fresh.Root, old.Root} {
			changed := api.Head{Size: fresh.Size, Root: root}
			checkExtended(t, old, changed, shorter, api.ErrProof)
			checkExtended(t, old, changed, path[1:], api.ErrProof)
			checkExtended(t, old, changed, nil, api.ErrProof)
		}
	})
}

func TestP6ExtendedByLongerPath(t *testing.T) {
	everyGrowth(func(old, fresh api.Head, path []string) {
		for _, part := range []string{"0000", old.Root, fresh.Root, ""} {
			ahead, behind := append([]string{part}, path...), append(slices.Clone(path), part)
			checkExtended(t, old, fresh, ahead, api.ErrProof)
			checkExtended(t, old, fresh, behind, api.ErrProof)
			changed := api.Head{Size: fresh.Size, Root: sumOf("N" + fresh.Root + part)}
			checkExtended(t, old, changed, behind, api.ErrProof)
		}
	})
}

// Both roots are what the path would fold to, were the part let through.
func TestP6ExtendedByPartThatIsNoSum(t *testing.T) {
	next := 0
	everyGrowth(func(old, fresh api.Head, path []string) {
		for at := range path {
			none := noSums[next%len(noSums)]
			next++
			changed := slices.Clone(path)
			changed[at] = none
			one, two, _ := foldGrowth(old.Root, old.Size, fresh.Size, changed, true)
			checkExtended(t, api.Head{Size: old.Size, Root: one}, api.Head{Size: fresh.Size, Root: two}, changed, api.ErrProof)
		}
	})
	for _, none := range noSums {
		for at := range 3 {
			path := madePath(3)
			path[at] = none
			one, two, _ := foldGrowth("", 3, 4, path, true)
			checkExtended(t, api.Head{Size: 3, Root: one}, api.Head{Size: 4, Root: two}, path, api.ErrProof)
		}
	}
}

func TestP6ExtendedSizesOutOfRange(t *testing.T) {
	for _, parts := range []int{0, 1, 2, 6} {
		path := madePath(parts)
		for n := range 42 {
			for _, far := range append([]int{0, n + 1}, farNumbers...) {
				old := api.Head{Size: far, Root: "5dbd"}
				checkExtended(t, old, api.Head{Size: n, Root: "5dbd"}, path, api.ErrArg)
			}
		}
		for _, far := range append([]int{0}, farNumbers...) {
			for _, size := range append([]int{1, 2, 40, far - 1, far}, farNumbers...) {
				old := api.Head{Size: size, Root: "5dbd"}
				checkExtended(t, old, api.Head{Size: far, Root: "5dbd"}, path, api.ErrArg)
			}
		}
	}
	one, two, _ := foldGrowth("5dbd", 32, 41, madePath(1), true)
	checkExtended(t, api.Head{Size: 32, Root: one}, api.Head{Size: 41, Root: two}, madePath(1), api.ErrArg)
	one, two, _ = foldGrowth("5dbd", 32, 40, madePath(1), true)
	checkExtended(t, api.Head{Size: 32, Root: one}, api.Head{Size: 40, Root: two}, madePath(1), api.OK)
}

func TestP6ExtendedArgumentsAheadOfProof(t *testing.T) {
	wrong := []string{"no sum"}
	good, fresh := api.Head{Size: 2, Root: "709b"}, api.Head{Size: 3, Root: "c016"}
	checkExtended(t, good, fresh, wrong, api.ErrProof)
	for _, old := range []api.Head{{}, {Size: 0, Root: "709b"}, {Size: 4, Root: "709b"}, {Size: -1, Root: "709b"}, {Size: 2, Root: "no"}} {
		checkExtended(t, old, fresh, wrong, api.ErrArg)
	}
	for _, changed := range []api.Head{{}, {Size: 1, Root: "c016"}, {Size: 41, Root: "c016"}, {Size: 3}} {
		checkExtended(t, good, changed, wrong, api.ErrArg)
	}
}

func TestP6ExtendedByVeryLongPath(t *testing.T) {
	for _, path := range [][]string{make([]string, 1000000), madePath(1000), {strings.Repeat("0", 5000000)}} {
		for _, m := range []int{1, 2, 3, 40} {
			checkExtended(t, api.Head{Size: m, Root: "5dbd"}, api.Head{Size: 40, Root: "5dbd"}, path, api.ErrProof)
		}
	}
}
