package treehead_test

import (
	"math/rand/v2"
	"testing"

	"treehead/api"
	"treehead/treehead"
)

// Here the calls are held against one another, not against the document's words
// written anew.

func TestP12WhatIsMadePasses(t *testing.T) {
	for n := 1; n <= 40; n++ {
		for _, leaves := range [][]string{numbered(n), oddRow(n), make([]string, n)} {
			root, _ := treehead.Root(leaves...)
			for at := range n {
				path, err := treehead.Include(leaves, at)
				if passes := treehead.Included(root, api.Answer{Size: n, Index: at, Leaf: leaves[at], Path: path}); err != api.OK || passes != api.OK {
					t.Errorf("P12: the path of %d of %d: %d, %d", at, n, err, passes)
				}
				old, _ := treehead.Root(leaves[:at+1]...)
				path, err = treehead.Extend(leaves, at+1)
				if passes := treehead.Extended(api.Head{Size: at + 1, Root: old}, api.Head{Size: n, Root: root}, path); err != api.OK || passes != api.OK {
					t.Errorf("P12: the path from %d to %d: %d, %d", at+1, n, err, passes)
				}
			}
		}
	}
}

func TestP12WhatIsSignedOpens(t *testing.T) {
	for secret := 1; secret <= 1018; secret++ {
		key, _ := treehead.Key(secret)
		for nonce := 1 + secret%7; nonce <= 1018; nonce += 37 {
			h := api.Head{Size: (secret + nonce) % 41, Root: treehead.Sum("root", string(rune(nonce)))}
			signed, err := treehead.Sign(secret, nonce, h)
			if got, opens := treehead.Open(key, signed); got != h || err != api.OK || opens != api.OK {
				t.Errorf("P12: of %v, signed with %d and %d, opens %v: %d, %d", h, secret, nonce, got, err, opens)
			}
		}
	}
}

// passesBoth tells that each leaf passes, and that one head extends the other.
func passesBoth(one, two api.Answer, path []string) bool {
	old, fresh := api.Head{Size: one.Size, Root: rootOfAnswer(one)}, api.Head{Size: two.Size, Root: rootOfAnswer(two)}
	return treehead.Included(old.Root, one) == api.OK && treehead.Included(fresh.Root, two) == api.OK && treehead.Extended(old, fresh, path) == api.OK
}

func TestP12WhereTwoLeavesPassTextsClash(t *testing.T) {
	d := dealer{Rand: rand.New(rand.NewPCG(12, 1))}
	for n := 1; n <= 40; n++ {
		for m := 1; m <= n; m++ {
			for index := range m {
				one, two, path, ok := d.clash(m, n, index)
				if !ok || one.Leaf == two.Leaf {
					one, two, path = twoBooks(m, n, index)
				}
				if !passesBoth(one, two, path) {
					t.Errorf("P12: leaf %d of %d and of %d does not pass", index, m, n)
				}
				first, second, err := treehead.Clash(one, two, path)
				if err != api.OK || first == second || treehead.Sum(first) != treehead.Sum(second) {
					t.Errorf("P12: two leaves pass at %d of %d and of %d, but Clash = %q, %q, %d", index, m, n, first, second, err)
				}
			}
		}
	}
}

func TestP12WhereTwoHeadsOpenThereIsEvidence(t *testing.T) {
	for secret := 1; secret <= 1018; secret += 11 {
		key, _ := treehead.Key(secret)
		size, text := secret%41, string(rune(secret))
		one, _ := treehead.Sign(secret, 1+secret%1000, api.Head{Size: size, Root: treehead.Sum("one", text)})
		two, _ := treehead.Sign(secret, 2+secret%1000, api.Head{Size: size, Root: treehead.Sum("two", text)})
		found, err := treehead.Evidence(key, one, two)
		if convicts := treehead.Convicts(key, found); err != api.OK || convicts != api.OK {
			t.Errorf("P12: the evidence of %x and %x: %x, %d, convicts: %d", one, two, found, err, convicts)
		}
	}
}

// A keeper shows one watcher one book and another watcher another book: each of
// them is content, and together they have evidence.
func TestP12KeeperWithTwoBooks(t *testing.T) {
	for n := 2; n <= 40; n++ {
		books := [][]string{numbered(n), numbered(n)}
		books[1][n-1] = "another"
		var last [2]string
		for i, book := range books {
			w := watch(t)
			for size := 0; size <= n; size++ {
				path := []string(nil)
				if size > 1 {
					path, _ = treehead.Extend(book[:size], size-1)
				}
				last[i], _ = treehead.Sign(5, 1+size, api.Head{Size: size, Root: rootOf(book[:size])})
				w.show(t, last[i], path, api.OK)
			}
			w.ask(t, answerOf(book, n-1), api.OK)
			w.ask(t, answerOf(books[1-i], n-1), api.ErrProof)
		}
		found, err := treehead.Evidence(1024, last[0], last[1])
		if convicts := treehead.Convicts(1024, found); err != api.OK || convicts != api.OK {
			t.Errorf("P12: the evidence of two books of %d: %d, convicts: %d", n, err, convicts)
		}
	}
}

// A keeper changes an old entry into another of one sum: the watcher cannot see
// it, but who was shown both entries can.
func TestP12KeeperWhoChangedAnOldEntry(t *testing.T) {
	for n := 2; n <= 40; n++ {
		for m := 1; m <= n; m++ {
			one, two, path := twoBooks(m, n, m-1)
			w := watch(t)
			w.show(t, signed(5, 9, m, rootOfAnswer(one)), nil, api.OK)
			w.ask(t, one, api.OK)
			w.show(t, signed(5, 9, n, rootOfAnswer(two)), path, api.OK)
			w.ask(t, two, api.OK)
			checkClash(t, one, two, path, "Lx\x01\x01y", "Lx\xfa\x23y", api.OK)
		}
	}
}
