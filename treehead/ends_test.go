package treehead_test

import (
	"slices"
	"strings"
	"testing"

	"treehead/api"
	"treehead/treehead"
)

func anyRows() [][]string {
	rows := [][]string{nil, {}, {""}, {strings.Repeat("x", 30)}, numbered(40), oddRow(40), oddRow(33)}
	for _, leaves := range wrongRows() {
		rows = append(rows, leaves)
	}
	return rows
}

func anyNumbers() []int { return append([]int{0, 1, 2, 3, 31, 32, 33, 39, 40}, farNumbers...) }

// anyTexts has right ones too, so that the calls go on as far as they can.
func anyTexts() []string {
	good := signed(5, 9, 3, "c016")
	return []string{"", "H", "V", "é", "c016", "ffff", "ABCD", good, good[:10], good + "x", "V" + good + signed(5, 10, 3, "d016"), strings.Repeat("H", 11), strings.Repeat("V", 23), strings.Repeat("\xff", 5000000)}
}

// checkAnswer takes the errors that the call may answer.
func checkAnswer(t *testing.T, name string, empty bool, err api.Errno, may ...api.Errno) {
	t.Helper()
	if err != api.OK && !slices.Contains(may, err) {
		t.Errorf("P1: %s answers the error %d", name, err)
	}
	if err != api.OK && !empty {
		t.Errorf("P1: %s answers something with the error %d", name, err)
	}
}

// A panic ends the test run, so it is enough to have called.
func TestP1EveryCallOfRowsEndsAtAnything(t *testing.T) {
	for _, leaves := range anyRows() {
		if sum := treehead.Sum(leaves...); len(sum) != 4 {
			t.Errorf("P1: Sum = %q", sum)
		}
		root, err := treehead.Root(leaves...)
		checkAnswer(t, "Root", root == "", err, api.ErrArg)
		for _, number := range anyNumbers() {
			path, err := treehead.Include(leaves, number)
			checkAnswer(t, "Include", path == nil, err, api.ErrArg)
			path, err = treehead.Extend(leaves, number)
			checkAnswer(t, "Extend", path == nil, err, api.ErrArg)
		}
	}
}

func anyPaths() [][]string {
	return [][]string{nil, {}, {""}, {"0000"}, madePath(2), madePath(6), madePath(7), {"0000", "no sum"}, {strings.Repeat("0", 1000000)}, make([]string, 1000000)}
}

func TestP1EveryCallOfPathsEndsAtAnything(t *testing.T) {
	numbers, texts := anyNumbers(), anyTexts()
	for _, path := range anyPaths() {
		for _, one := range numbers {
			for _, two := range numbers {
				for _, text := range texts {
					err := treehead.Included("c016", api.Answer{Size: one, Index: two, Leaf: text, Path: path})
					checkAnswer(t, "Included", true, err, api.ErrArg, api.ErrProof)
					err = treehead.Included(text, api.Answer{Size: one, Index: two, Path: path})
					checkAnswer(t, "Included", true, err, api.ErrArg, api.ErrProof)
					err = treehead.Extended(api.Head{Size: one, Root: text}, api.Head{Size: two, Root: "c016"}, path)
					checkAnswer(t, "Extended", true, err, api.ErrArg, api.ErrProof)
					err = treehead.Extended(api.Head{Size: one, Root: "c016"}, api.Head{Size: two, Root: text}, path)
					checkAnswer(t, "Extended", true, err, api.ErrArg, api.ErrProof)
				}
			}
		}
	}
}

func TestP1EveryCallOfSignaturesEndsAtAnything(t *testing.T) {
	texts, nonces := anyTexts(), slices.Concat(noSecrets, anyNumbers())
	for _, one := range slices.Concat(noSecrets, noKeys, []int{5, 1018, 1024}) {
		key, err := treehead.Key(one)
		checkAnswer(t, "Key", key == 0, err, api.ErrArg)
		for _, text := range texts {
			for _, two := range nonces {
				signed, err := treehead.Sign(one, two, api.Head{Size: two, Root: text})
				checkAnswer(t, "Sign", signed == "", err, api.ErrArg)
			}
			h, err := treehead.Open(one, text)
			checkAnswer(t, "Open", h == api.Head{}, err, api.ErrKey, api.ErrBytes, api.ErrSign)
			err = treehead.Convicts(one, text)
			checkAnswer(t, "Convicts", true, err, api.ErrKey, api.ErrBytes, api.ErrSign)
			for _, other := range texts {
				evidence, err := treehead.Evidence(one, text, other)
				checkAnswer(t, "Evidence", evidence == "", err, api.ErrKey, api.ErrBytes, api.ErrSign, api.ErrOther, api.ErrSame)
			}
		}
	}
}

func TestP1ClashEndsAtAnything(t *testing.T) {
	leaves := []string{"", "\x01\x01", "\xfa\x23", strings.Repeat("x", 30), strings.Repeat("x", 31), strings.Repeat("\xff", 5000000)}
	numbers := append([]int{0, 1, 2, 3, 40}, farNumbers...)
	for _, path := range anyPaths() {
		for _, size := range numbers {
			for _, index := range numbers {
				for i, leaf := range leaves {
					one := api.Answer{Size: size, Index: index, Leaf: leaf, Path: path}
					two := api.Answer{Size: max(size, 2), Index: index, Leaf: leaves[(i+1)%len(leaves)], Path: path}
					for _, c := range [][2]api.Answer{{one, two}, {two, one}, {one, one}} {
						first, second, err := treehead.Clash(c[0], c[1], path)
						checkAnswer(t, "Clash", first == "" && second == "", err, api.ErrArg, api.ErrProof, api.ErrSame)
					}
				}
			}
		}
	}
}

func TestP1EveryCallOfAWatcherEndsAtAnything(t *testing.T) {
	for _, key := range slices.Concat(noSecrets, noKeys, []int{5, 1018}) {
		w, err := treehead.Watch(key)
		checkAnswer(t, "Watch", w == nil, err, api.ErrKey)
	}
	texts, numbers := anyTexts(), anyNumbers()
	for _, first := range []string{"", signed(5, 9, 0, "014d"), signed(5, 9, 3, "c016")} {
		w := watch(t)
		w.Update(first, nil)
		for range 2 {
			for _, path := range anyPaths() {
				for _, text := range texts {
					err := w.Update(text, path)
					checkAnswer(t, "Update", true, err, api.ErrClosed, api.ErrBytes, api.ErrSign, api.ErrOld, api.ErrProof)
					h, err := w.Head()
					checkAnswer(t, "Head", h == api.Head{}, err, api.ErrNone)
				}
				for i, size := range numbers {
					a := api.Answer{Size: size, Index: numbers[len(numbers)-1-i], Leaf: texts[i%len(texts)], Path: path}
					err := w.Holds(a)
					checkAnswer(t, "Holds", true, err, api.ErrClosed, api.ErrNone, api.ErrOther, api.ErrArg, api.ErrProof)
				}
			}
			w.Close()
		}
	}
}

// An update that is refused must leave no trace: neither in the head, nor in
// what is held, nor in what may come next.
func TestP1RefusedUpdateChangesNothing(t *testing.T) {
	leaves := numbered(9)
	path, _ := treehead.Extend(leaves[:7], 4)
	refused := []struct {
		signed string
		path   []string
	}{
		{"", nil},
		{signed(6, 9, 7, rootOf(leaves[:7])), path},
		{signedBook(leaves[:3]), nil},
		{signedBook(leaves[:7]), nil},
		{signedBook(leaves[:7]), path[1:]},
		{signedBook(leaves[1:8]), path},
		{signed(5, 9, 4, "0000"), nil},
	}
	for _, c := range refused {
		w := watch(t)
		w.show(t, signedBook(leaves[:4]), nil, api.OK)
		for range 3 {
			if err := w.Update(c.signed, c.path); err == api.OK {
				t.Errorf("P11: Update(%x, %q) is not refused", c.signed, c.path)
			}
			w.checkHead(t)
			w.ask(t, answerOf(leaves[:4], 3), api.OK)
		}
		w.show(t, signedBook(leaves[:7]), path, api.OK)
	}
}
