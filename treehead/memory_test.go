package treehead_test

import (
	"slices"
	"sync"
	"testing"
	"unsafe"

	"treehead/api"
	"treehead/treehead"
)

// roomy has n leaves and, behind them, spare room that is written full, so
// that a call that appends to what it was handed is seen.
func roomy(n int) []string {
	full := append(numbered(n), "spare", "spare", "spare", "spare", "spare", "spare", "spare", "spare")
	return full[:n]
}

func untouched(t *testing.T, name string, leaves []string) {
	t.Helper()
	want := roomy(len(leaves))
	if !slices.Equal(leaves[:len(leaves)+8], want[:len(want)+8]) {
		t.Errorf("P2: %s wrote into what it was handed: %q", name, leaves[:len(leaves)+8])
	}
}

func TestP2NothingHandedInIsWrittenInto(t *testing.T) {
	for n := range 42 {
		leaves := roomy(n)
		treehead.Sum(leaves...)
		untouched(t, "Sum", leaves)
		treehead.Root(leaves...)
		untouched(t, "Root", leaves)
		for number := -1; number <= n+1; number++ {
			treehead.Include(leaves, number)
			untouched(t, "Include", leaves)
			treehead.Extend(leaves, number)
			untouched(t, "Extend", leaves)
		}
	}
}

// spared has spare room behind it that is written full, see roomy.
func spared(path []string) []string {
	full := append(slices.Clone(path), "spare", "spare", "spare", "spare", "spare", "spare", "spare", "spare")
	return full[:len(path)]
}

func TestP2NoPathHandedInIsWrittenInto(t *testing.T) {
	everyGrowth(func(old, fresh api.Head, path []string) {
		handed := spared(path)
		for _, root := range []string{old.Root, "0000", "no sum"} {
			treehead.Extended(api.Head{Size: old.Size, Root: root}, fresh, handed)
			treehead.Included(root, api.Answer{Size: fresh.Size, Index: old.Size - 1, Leaf: "a", Path: handed})
		}
		if want := spared(path); !slices.Equal(handed[:len(path)+8], want[:len(path)+8]) {
			t.Errorf("P2: a path from %d to %d that was handed in was written into: %q", old.Size, fresh.Size, handed[:len(path)+8])
		}
	})
}

func TestP2NoPathHandedInIsKept(t *testing.T) {
	leaves := numbered(7)
	a := answerOf(leaves, 2)
	grown, _ := treehead.Extend(leaves, 3)
	for range 2 {
		checkIncluded(t, rootOf(leaves), a, api.OK)
		checkExtended(t, headOf(leaves[:3]), headOf(leaves), grown, api.OK)
	}
	a.Path[0], grown[0] = grown[0], a.Path[0]
	checkIncluded(t, rootOf(leaves), a, api.ErrProof)
	checkExtended(t, headOf(leaves[:3]), headOf(leaves), grown, api.ErrProof)
	a.Path[0], grown[0] = grown[0], a.Path[0]
	checkIncluded(t, rootOf(leaves), a, api.OK)
	checkExtended(t, headOf(leaves[:3]), headOf(leaves), grown, api.OK)
}

// scribble writes into a list and its spare room, as its owner may.
func scribble(list []string) {
	list = list[:cap(list)]
	for i := range list {
		list[i] = "the caller's"
	}
}

type pathMaker func([]string, int) ([]string, api.Errno)

func checkOwn(t *testing.T, name string, path pathMaker, n, number int) {
	t.Helper()
	leaves := roomy(n)
	first, _ := path(leaves, number)
	kept := slices.Clone(first)
	second, _ := path(leaves, number)
	scribble(second)
	if !slices.Equal(first, kept) {
		t.Errorf("P2: two answers of %s, of %d leaves, %d, share memory", name, n, number)
	}
	scribble(first)
	untouched(t, name, leaves)
	if third, err := path(leaves, number); !slices.Equal(third, kept) || err != api.OK {
		t.Errorf("P2: %s of %d leaves, %d, hangs on what was written into an older answer: %q, %d", name, n, number, third, err)
	}
}

func TestP2WhatComesOutIsTheCallersOwn(t *testing.T) {
	for n := 1; n <= 40; n++ {
		for number := 1; number <= n; number++ {
			checkOwn(t, "Include", treehead.Include, n, number-1)
			checkOwn(t, "Extend", treehead.Extend, n, number)
		}
	}
}

func TestP2NothingHandedInIsKept(t *testing.T) {
	leaves := numbered(7)
	root, _ := treehead.Root(leaves...)
	leafPath, _ := treehead.Include(leaves, 2)
	growthPath, _ := treehead.Extend(leaves, 3)
	keptLeaf, keptGrowth := slices.Clone(leafPath), slices.Clone(growthPath)
	scribble(leaves)
	if !slices.Equal(leafPath, keptLeaf) || !slices.Equal(growthPath, keptGrowth) {
		t.Error("P2: an answer changes with what was handed in")
	}
	if again, _ := treehead.Root(leaves...); again == root {
		t.Error("P2: Root remembers what the leaves were")
	}
	if again, err := treehead.Root(leaves...); again != rootOf(leaves) || err != api.OK {
		t.Errorf("P2: Root of changed leaves = %q, %d", again, err)
	}
}

func TestP2AnswersHangOnArgumentsAlone(t *testing.T) {
	var group sync.WaitGroup
	for n := 1; n <= 40; n++ {
		group.Go(func() {
			leaves := numbered(n)
			if root, err := treehead.Root(leaves...); root != rootOf(leaves) || err != api.OK {
				t.Errorf("P2: Root of %d leaves, beside others, = %q, %d", n, root, err)
			}
			path, err := treehead.Include(leaves, n-1)
			if err != api.OK || foldLeaf(leaves[n-1], n-1, n, path) != rootOf(leaves) {
				t.Errorf("P2: Include of %d leaves, beside others, = %q, %d", n, path, err)
			}
			if err := treehead.Included(rootOf(leaves), answerOf(leaves, n/2)); err != api.OK {
				t.Errorf("P2: Included of %d leaves, beside others, = %d", n, err)
			}
			one, _ := treehead.Sign(n, 1, headOf(leaves))
			two, _ := treehead.Sign(n, 2, api.Head{Size: n, Root: "0000"})
			if found, err := treehead.Evidence(keyOf(n), one, two); err != api.OK || treehead.Convicts(keyOf(n), found) != api.OK {
				t.Errorf("P2: Evidence of %d leaves, beside others, = %x, %d", n, found, err)
			}
		})
	}
	group.Wait()
}

func unspoilt(t *testing.T, name string, handed, path []string) {
	t.Helper()
	if want := spared(path); !slices.Equal(handed[:len(path)+8], want[:len(path)+8]) {
		t.Errorf("P2: %s wrote into a path that was handed in: %q", name, handed[:len(path)+8])
	}
}

func TestP2NoPathHandedToClashIsWrittenInto(t *testing.T) {
	for n := 1; n <= 20; n++ {
		for m := 1; m <= n; m++ {
			one, two, path := twoBooks(m, n, m/2)
			onePath, twoPath := one.Path, two.Path
			one.Path, two.Path = spared(onePath), spared(twoPath)
			handed := spared(path)
			checkClash(t, one, two, handed, "Lx\x01\x01y", "Lx\xfa\x23y", api.OK)
			treehead.Clash(one, two, handed[:len(path)+1])
			treehead.Clash(two, one, handed)
			unspoilt(t, "Clash", handed, path)
			unspoilt(t, "Clash", one.Path, onePath)
			unspoilt(t, "Clash", two.Path, twoPath)
		}
	}
}

func TestP2NoPathHandedToAWatcherIsWrittenInto(t *testing.T) {
	leaves := numbered(20)
	for n := 2; n <= 20; n++ {
		w := watch(t)
		w.show(t, signedBook(leaves[:n/2]), nil, api.OK)
		path, _ := treehead.Extend(leaves[:n], n/2)
		handed := spared(path)
		w.show(t, signedBook(leaves[1:n]), handed, w.model.with(signedBook(leaves[1:n]), handed))
		w.show(t, signedBook(leaves[:n]), handed, api.OK)
		unspoilt(t, "Update", handed, path)
		a := answerOf(leaves[:n], n-1)
		asked := a
		asked.Path = spared(a.Path)
		w.ask(t, asked, api.OK)
		unspoilt(t, "Holds", asked.Path, a.Path)
	}
}

// with is what an update would answer; the copy that it is called on is gone.
func (m model) with(signed string, path []string) api.Errno { return m.update(signed, path) }

func TestP2WatcherKeepsNothingTheCallerCanChange(t *testing.T) {
	leaves := numbered(7)
	w := watch(t)
	w.show(t, signedBook(leaves[:3]), nil, api.OK)
	path, _ := treehead.Extend(leaves, 3)
	w.show(t, signedBook(leaves), path, api.OK)
	scribble(path)
	a := answerOf(leaves, 5)
	w.ask(t, a, api.OK)
	scribble(a.Path)
	w.ask(t, a, api.ErrProof)
	h, _ := w.Head()
	h.Root, h.Size = "0000", 1
	w.checkHead(t)
	w.ask(t, answerOf(leaves, 5), api.OK)
}

// Bytes that are looked at as a text can be changed behind it.
func TestP2WatcherKeepsNoTextHandedIn(t *testing.T) {
	leaves := numbered(7)
	bytes := []byte(signedBook(leaves))
	w := watch(t)
	w.update(signedBook(leaves), nil)
	if err := w.Update(unsafe.String(&bytes[0], len(bytes)), nil); err != api.OK {
		t.Errorf("P11: Update = %d", err)
	}
	clear(bytes)
	w.checkHead(t)
	w.ask(t, answerOf(leaves, 5), api.OK)
}

func TestP2WatchersDoNotTouchOneAnother(t *testing.T) {
	leaves := numbered(9)
	path, _ := treehead.Extend(leaves, 4)
	one, two, closed, idle := watch(t), watch(t), watch(t), watch(t)
	one.show(t, signedBook(leaves[:4]), nil, api.OK)
	two.show(t, signedBook(leaves), nil, api.OK)
	closed.shut(t)
	one.show(t, signedBook(leaves), path, api.OK)
	two.show(t, signedBook(leaves), path, api.ErrProof)
	closed.show(t, signedBook(leaves), nil, api.ErrClosed)
	idle.ask(t, answerOf(leaves, 2), api.ErrNone)
	two.shut(t)
	one.ask(t, answerOf(leaves, 2), api.OK)
	two.ask(t, answerOf(leaves, 2), api.ErrClosed)
	idle.show(t, signedBook(nil), nil, api.OK)
	for _, w := range []*watched{one, two, closed, idle} {
		w.checkHead(t)
	}
	later := watch(t)
	later.ask(t, answerOf(leaves, 2), api.ErrNone)
	later.show(t, signedBook(leaves[:1]), nil, api.OK)
}

func TestP2WatchersBesideOneAnother(t *testing.T) {
	var group sync.WaitGroup
	for n := 1; n <= 40; n++ {
		group.Go(func() {
			leaves := numbered(n)
			w := watchKey(t, keyOf(n))
			w.show(t, signed(n, 9, 1, rootOf(leaves[:1])), nil, api.OK)
			path, _ := treehead.Extend(leaves, 1)
			w.show(t, signed(n, 9, n, rootOf(leaves)), path, api.OK)
			w.ask(t, answerOf(leaves, n/2), api.OK)
			one, two, path := twoBooks((n+1)/2, n, n/3)
			checkClash(t, one, two, path, "Lx\x01\x01y", "Lx\xfa\x23y", api.OK)
			w.shut(t)
			w.ask(t, answerOf(leaves, n/2), api.ErrClosed)
		})
	}
	group.Wait()
}
