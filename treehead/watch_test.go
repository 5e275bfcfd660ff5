package treehead_test

import (
	"fmt"
	"math/rand/v2"
	"slices"
	"strings"
	"testing"

	"treehead/api"
	"treehead/treehead"
)

func TestP11WatchTakesKeysAlone(t *testing.T) {
	all := keys()
	for n := -10; n < 2100; n++ {
		w, err := treehead.Watch(n)
		_, isKey := slices.BinarySearch(all, n)
		if isKey && (w == nil || err != api.OK) || !isKey && (w != nil || err != api.ErrKey) {
			t.Errorf("P11: Watch(%d) = %v, %d", n, w, err)
		}
	}
	for _, n := range noKeys {
		if w, err := treehead.Watch(n); w != nil || err != api.ErrKey {
			t.Errorf("P11: Watch(%d) = %v, %d", n, w, err)
		}
	}
}

func TestP11NewWatcherSawNothing(t *testing.T) {
	for _, key := range keys() {
		w := watchKey(t, key)
		w.checkHead(t)
		w.ask(t, api.Answer{}, api.ErrNone)
		w.ask(t, answerOf(numbered(3), 1), api.ErrNone)
		w.ask(t, api.Answer{Size: -1, Index: 5, Leaf: strings.Repeat("x", 31)}, api.ErrNone)
	}
}

func TestP11FirstHeadIsSeenAsItIs(t *testing.T) {
	for secret := 1; secret <= 1018; secret += 3 {
		size, root := secret%41, sumOf(fmt.Sprint(secret))
		w := watchKey(t, keyOf(secret))
		w.show(t, signed(secret, 9, size, root), []string{"0000"}, api.ErrProof)
		w.show(t, signed(secret, 9, size, root), []string{""}, api.ErrProof)
		w.show(t, signed(secret, 9, size, root), make([]string, 1000), api.ErrProof)
		w.show(t, signed(secret, 9, size, root), []string{}, api.OK)
		w = watchKey(t, keyOf(secret))
		w.show(t, signed(secret, 10, size, root), nil, api.OK)
		if h, err := w.Head(); h != (api.Head{Size: size, Root: root}) || err != api.OK {
			t.Errorf("P11: Head = %v, %d", h, err)
		}
	}
}

func TestP11EveryGrowthIsSeen(t *testing.T) {
	for n := 1; n <= 40; n++ {
		for _, leaves := range [][]string{numbered(n), oddRow(n)} {
			for size := 1; size <= n; size++ {
				path, _ := treehead.Extend(leaves, size)
				w := watch(t)
				w.show(t, signedBook(leaves[:size]), nil, api.OK)
				w.show(t, signedBook(leaves), append([]string{"0000"}, path...), api.ErrProof)
				w.show(t, signedBook(leaves), path, api.OK)
				w.ask(t, answerOf(leaves, size-1), api.OK)
				w.show(t, signedBook(leaves), nil, api.OK)
				if size < n {
					w.show(t, signedBook(leaves[:size]), nil, api.ErrOld)
				}
			}
		}
	}
}

func TestP11GrowthStepByStep(t *testing.T) {
	leaves := numbered(40)
	for step := 1; step <= 39; step++ {
		w := watch(t)
		for size := 0; size <= 40; size += step {
			path := []string(nil)
			if size > step {
				path, _ = treehead.Extend(leaves[:size], size-step)
			}
			w.show(t, signedBook(leaves[:size]), path, api.OK)
			for index := range size {
				w.ask(t, answerOf(leaves[:size], index), api.OK)
			}
		}
	}
}

func TestP11HeadsThatDoNotOpen(t *testing.T) {
	leaves := numbered(5)
	good := signedBook(leaves)
	for _, seen := range []string{"", signedBook(nil), signedBook(leaves[:3])} {
		w := watch(t)
		if seen != "" {
			w.show(t, seen, nil, api.OK)
		}
		for _, path := range [][]string{nil, {"0000"}, {"no sum"}} {
			for _, torn := range []string{"", "H", good[:10], good + "\x00", "h" + good[1:], strings.Repeat("H", 5000000), signed(5, 9, 41, "0000"), signed(5, 9, 3, "ABCD"), written(3, "0000", 1019, 0), written(3, "0000", 0, 1019)} {
				w.show(t, torn, path, api.ErrBytes)
			}
			// Shorter ones too: that it is not signed right is named first.
			for _, other := range []string{signed(6, 9, 5, rootOf(leaves)), signed(6, 9, 0, "014d"), signed(6, 9, 1, "0000"), good[:9] + inTwo((fromTwo(good[9:])+1)%1019)} {
				w.show(t, other, path, api.ErrSign)
			}
		}
	}
}

func TestP11OldHeads(t *testing.T) {
	leaves := numbered(12)
	for seen := 1; seen <= 12; seen++ {
		w := watch(t)
		w.show(t, signedBook(leaves[:seen]), nil, api.OK)
		for size := range seen {
			for _, path := range [][]string{nil, {"0000"}, {"no sum"}, madePath(5)} {
				w.show(t, signedBook(leaves[:size]), path, api.ErrOld)
				w.show(t, signed(5, 9, size, rootOf(leaves[:seen])), path, api.ErrOld)
			}
		}
	}
}

func TestP11HeadsOfOneSize(t *testing.T) {
	for n := 1; n <= 40; n++ {
		w := watch(t)
		w.show(t, signed(5, 9, n, "abcd"), nil, api.OK)
		for nonce := 1; nonce <= 20; nonce++ {
			w.show(t, signed(5, nonce, n, "abcd"), nil, api.OK)
			w.show(t, signed(5, nonce, n, "abcd"), []string{"abcd"}, api.ErrProof)
		}
		for _, other := range []string{"0000", "abce", "ffff"} {
			w.show(t, signed(5, 9, n, other), nil, api.ErrProof)
			w.show(t, signed(5, 9, n, other), []string{other}, api.ErrProof)
		}
	}
}

func TestP11BookOfNothingBecomesAny(t *testing.T) {
	for size := range 41 {
		for _, nothing := range []string{sumOf("E"), "0000", "ffff"} {
			w := watch(t)
			w.show(t, signed(5, 9, 0, nothing), nil, api.OK)
			w.ask(t, api.Answer{}, api.ErrArg)
			w.ask(t, answerOf(numbered(1), 0), api.ErrOther)
			for _, path := range [][]string{{"0000"}, {""}, madePath(6), make([]string, 1000)} {
				w.show(t, signed(5, 9, size, "abcd"), path, api.ErrProof)
			}
			w.show(t, signed(5, 9, size, "abcd"), nil, api.OK)
			if size > 0 {
				w.show(t, signed(5, 9, 0, nothing), nil, api.ErrOld)
			}
		}
	}
}

func TestP11GrowthsThatProveNothing(t *testing.T) {
	for n := 2; n <= 10; n++ {
		leaves := numbered(n)
		for size := 1; size <= n; size++ {
			path, _ := treehead.Extend(leaves, size)
			w := watch(t)
			w.show(t, signedBook(leaves[:size]), nil, api.OK)
			for _, changed := range changedPaths(path) {
				w.show(t, signedBook(leaves), changed, api.ErrProof)
			}
			for at := range size {
				other := numbered(n)
				other[at] = "another"
				path, _ := treehead.Extend(other, size)
				w.show(t, signedBook(other), path, api.ErrProof)
			}
			w.show(t, signedBook(leaves), path, api.OK)
		}
	}
}

func TestP11HoldsErrorsInOrder(t *testing.T) {
	leaves := numbered(6)
	w := watch(t)
	w.show(t, signedBook(leaves), nil, api.OK)
	good := answerOf(leaves, 2)
	w.ask(t, good, api.OK)
	for _, size := range append([]int{0, 1, 5, 7}, farNumbers...) {
		for _, index := range []int{2, -1, size} {
			w.ask(t, api.Answer{Size: size, Index: index, Leaf: good.Leaf, Path: good.Path}, api.ErrOther)
			w.ask(t, api.Answer{Size: size, Index: index, Leaf: strings.Repeat("x", 31)}, api.ErrOther)
		}
	}
	for _, index := range append([]int{6, 7}, farNumbers...) {
		w.ask(t, api.Answer{Size: 6, Index: index, Leaf: good.Leaf, Path: good.Path}, api.ErrArg)
	}
	for _, path := range [][]string{good.Path, nil, {"no sum"}} {
		w.ask(t, api.Answer{Size: 6, Index: 2, Leaf: strings.Repeat("x", 31), Path: path}, api.ErrArg)
		w.ask(t, api.Answer{Size: 6, Index: 2, Leaf: "else", Path: path}, api.ErrProof)
		w.ask(t, api.Answer{Size: 6, Index: 3, Leaf: good.Leaf, Path: path}, api.ErrProof)
	}
	for _, path := range changedPaths(good.Path) {
		w.ask(t, api.Answer{Size: 6, Index: 2, Leaf: good.Leaf, Path: path}, api.ErrProof)
	}
}

func TestP11ClosedWatcher(t *testing.T) {
	leaves := numbered(6)
	for _, seen := range []string{"", signedBook(nil), signedBook(leaves)} {
		w := watch(t)
		if seen != "" {
			w.show(t, seen, nil, api.OK)
		}
		for range 3 {
			w.shut(t)
			for _, path := range [][]string{nil, {"no sum"}} {
				for _, text := range []string{signedBook(leaves), signedBook(nil), signedBook(leaves[:1]), signed(6, 9, 6, "0000"), "", "no head"} {
					w.show(t, text, path, api.ErrClosed)
				}
			}
			w.ask(t, answerOf(leaves, 2), api.ErrClosed)
			w.ask(t, answerOf(leaves[:3], 2), api.ErrClosed)
			w.ask(t, api.Answer{}, api.ErrClosed)
		}
	}
}

// Asking must not be what closes a watcher, or opens it again.
func TestP11OpenUntilClosed(t *testing.T) {
	leaves := numbered(4)
	w := watch(t)
	for range 1000 {
		w.show(t, signedBook(leaves), nil, api.OK)
		w.ask(t, answerOf(leaves, 3), api.OK)
	}
	w.shut(t)
	for range 1000 {
		w.show(t, signedBook(leaves), nil, api.ErrClosed)
		w.ask(t, answerOf(leaves, 3), api.ErrClosed)
	}
}

// Two books, one of them with another entry from some index on; what is shown
// is now right, now not.
func TestP11AnyStepsAsTheModelSays(t *testing.T) {
	r := rand.New(rand.NewPCG(11, 3))
	met := make(map[api.Errno]int)
	for range 3000 {
		books := [][]string{numbered(40), numbered(40)}
		books[1][r.IntN(12)] = "another"
		w := watch(t)
		seen := 0
		for range 12 {
			book := books[r.IntN(5)/4]
			size := max(0, min(40, seen+r.IntN(8)-1))
			path := []string(nil)
			if from := seen + r.IntN(9)/8; from >= 1 && from <= size && r.IntN(8) > 0 {
				path, _ = treehead.Extend(book[:size], from)
			}
			text := signed(5+r.IntN(12)/11, 9, size, rootOf(book[:size]))
			model := w.model
			want := model.update(text, path)
			w.show(t, text, path, want)
			met[want]++
			seen = w.seen.Size
			if seen > 0 {
				a := answerOf(books[r.IntN(5)/4][:seen], r.IntN(seen))
				w.ask(t, a, w.holds(a))
			}
			if r.IntN(30) == 0 {
				w.shut(t)
			}
		}
	}
	for _, err := range []api.Errno{api.OK, api.ErrSign, api.ErrOld, api.ErrProof, api.ErrClosed} {
		if met[err] < 100 {
			t.Errorf("only %d steps came to %d: %v", met[err], err, met)
		}
	}
}
