package treehead_test

import (
	"slices"
	"sync"
	"testing"

	"treehead/api"
	"treehead/treehead"
)

// roomy has n leaves and, behind them, spare room that is written full, so
// that a call that appends to what it was handed is seen.
func roomy(n int) []string {
	full := append(numbered(n), "spare", "spare", "spare", "spare", "spare", "spare", "spare", "spare")
	return full[:n]
}

func untouched(t *testing.T, name string, leaves []string) {
	t.Helper()
	want := roomy(len(leaves))
	if !slices.Equal(leaves[:len(leaves)+8], want[:len(want)+8]) {
		t.Errorf("P2: %s wrote into what it was handed: %q", name, leaves[:len(leaves)+8])
	}
}

func TestP2NothingHandedInIsWrittenInto(t *testing.T) {
	for n := range 42 {
		leaves := roomy(n)
		treehead.Sum(leaves...)
		untouched(t, "Sum", leaves)
		treehead.Root(leaves...)
		untouched(t, "Root", leaves)
		for number := -1; number <= n+1; number++ {
			treehead.Include(leaves, number)
			untouched(t, "Include", leaves)
			treehead.Extend(leaves, number)
			untouched(t, "Extend", leaves)
		}
	}
}

// spared has spare room behind it that is written full, see roomy.
func spared(path []string) []string {
	full := append(slices.Clone(path), "spare", "spare", "spare", "spare", "spare", "spare", "spare", "spare")
	return full[:len(path)]
}

func TestP2NoPathHandedInIsWrittenInto(t *testing.T) {
	everyGrowth(func(old, fresh api.Head, path []string) {
		handed := spared(path)
		for _, root := range []string{old.Root, "0000", "no sum"} {
			treehead.Extended(api.Head{Size: old.Size, Root: root}, fresh, handed)
			treehead.Included(root, api.Answer{Size: fresh.Size, Index: old.Size - 1, Leaf: "a", Path: handed})
		}
		if want := spared(path); !slices.Equal(handed[:len(path)+8], want[:len(path)+8]) {
			t.Errorf("P2: a path from %d to %d that was handed in was written into: %q", old.Size, fresh.Size, handed[:len(path)+8])
		}
	})
}

func TestP2NoPathHandedInIsKept(t *testing.T) {
	leaves := numbered(7)
	a := answerOf(leaves, 2)
	grown, _ := treehead.Extend(leaves, 3)
	for range 2 {
		checkIncluded(t, rootOf(leaves), a, api.OK)
		checkExtended(t, headOf(leaves[:3]), headOf(leaves), grown, api.OK)
	}
	a.Path[0], grown[0] = grown[0], a.Path[0]
	checkIncluded(t, rootOf(leaves), a, api.ErrProof)
	checkExtended(t, headOf(leaves[:3]), headOf(leaves), grown, api.ErrProof)
	a.Path[0], grown[0] = grown[0], a.Path[0]
	checkIncluded(t, rootOf(leaves), a, api.OK)
	checkExtended(t, headOf(leaves[:3]), headOf(leaves), grown, api.OK)
}

// scribble writes into a list and its spare room, as its owner may.
func scribble(list []string) {
	list = list[:cap(list)]
	for i := range list {
		list[i] = "the caller's"
	}
}

type pathMaker func([]string, int) ([]string, api.Errno)

func checkOwn(t *testing.T, name string, path pathMaker, n, number int) {
	t.Helper()
	leaves := roomy(n)
	first, _ := path(leaves, number)
	kept := slices.Clone(first)
	second, _ := path(leaves, number)
	scribble(second)
	if !slices.Equal(first, kept) {
		t.Errorf("P2: two answers of %s, of %d leaves, %d, share memory", name, n, number)
	}
	scribble(first)
	untouched(t, name, leaves)
	if third, err := path(leaves, number); !slices.Equal(third, kept) || err != api.OK {
		t.Errorf("P2: %s of %d leaves, %d, hangs on what was written into an older answer: %q, %d", name, n, number, third, err)
	}
}

func TestP2WhatComesOutIsTheCallersOwn(t *testing.T) {
	for n := 1; n <= 40; n++ {
		for number := 1; number <= n; number++ {
			checkOwn(t, "Include", treehead.Include, n, number-1)
			checkOwn(t, "Extend", treehead.Extend, n, number)
		}
	}
}

func TestP2NothingHandedInIsKept(t *testing.T) {
	leaves := numbered(7)
	root, _ := treehead.Root(leaves...)
	leafPath, _ := treehead.Include(leaves, 2)
	growthPath, _ := treehead.Extend(leaves, 3)
	keptLeaf, keptGrowth := slices.Clone(leafPath), slices.Clone(growthPath)
	scribble(leaves)
	if !slices.Equal(leafPath, keptLeaf) || !slices.Equal(growthPath, keptGrowth) {
		t.Error("P2: an answer changes with what was handed in")
	}
	if again, _ := treehead.Root(leaves...); again == root {
		t.Error("P2: Root remembers what the leaves were")
	}
	if again, err := treehead.Root(leaves...); again != rootOf(leaves) || err != api.OK {
		t.Errorf("P2: Root of changed leaves = %q, %d", again, err)
	}
}

func TestP2AnswersHangOnArgumentsAlone(t *testing.T) {
	var group sync.WaitGroup
	for n := 1; n <= 40; n++ {
		group.Go(func() {
			leaves := numbered(n)
			if root, err := treehead.Root(leaves...); root != rootOf(leaves) || err != api.OK {
				t.Errorf("P2: Root of %d leaves, beside others, = %q, %d", n, root, err)
			}
			path, err := treehead.Include(leaves, n-1)
			if err != api.OK || foldLeaf(leaves[n-1], n-1, n, path) != rootOf(leaves) {
				t.Errorf("P2: Include of %d leaves, beside others, = %q, %d", n, path, err)
			}
			if err := treehead.Included(rootOf(leaves), answerOf(leaves, n/2)); err != api.OK {
				t.Errorf("P2: Included of %d leaves, beside others, = %d", n, err)
			}
			one, _ := treehead.Sign(n, 1, headOf(leaves))
			two, _ := treehead.Sign(n, 2, api.Head{Size: n, Root: "0000"})
			if found, err := treehead.Evidence(keyOf(n), one, two); err != api.OK || treehead.Convicts(keyOf(n), found) != api.OK {
				t.Errorf("P2: Evidence of %d leaves, beside others, = %x, %d", n, found, err)
			}
		})
	}
	group.Wait()
}
