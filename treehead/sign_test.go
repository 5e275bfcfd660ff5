package treehead_test

import (
	"encoding/hex"
	"testing"

	"treehead/api"
	"treehead/treehead"
)

func TestP7KeyOfEverySecret(t *testing.T) {
	of := make(map[int]int)
	key := 1
	for secret := 1; secret <= 1018; secret++ {
		key = key * 4 % 2039
		got, err := treehead.Key(secret)
		if got != key || err != api.OK {
			t.Errorf("P7: Key(%d) = %d, %d, want %d", secret, got, err, key)
		}
		if of[got] != 0 {
			t.Errorf("P7: the secrets %d and %d have one key", of[got], secret)
		}
		of[got] = secret
	}
}

func TestP7KeyAsWrittenOut(t *testing.T) {
	for secret, want := range map[int]int{1: 4, 2: 16, 5: 1024, 6: 18, 500: 277, 1017: 1147, 1018: 510} {
		if got, err := treehead.Key(secret); got != want || err != api.OK {
			t.Errorf("P7: Key(%d) = %d, %d, want %d", secret, got, err, want)
		}
	}
}

func TestP7KeyOfNoSecret(t *testing.T) {
	for _, n := range noSecrets {
		if got, err := treehead.Key(n); got != 0 || err != api.ErrArg {
			t.Errorf("P7: Key(%d) = %d, %d", n, got, err)
		}
	}
}

func checkSign(t *testing.T, secret, nonce int, h api.Head, want string) {
	t.Helper()
	if got, err := treehead.Sign(secret, nonce, h); got != want || err != api.OK {
		t.Errorf("P7: Sign(%d, %d, %v) = %x, %d, want %x", secret, nonce, h, got, err, want)
	}
}

func TestP7SignAsWrittenOut(t *testing.T) {
	for _, c := range []struct {
		secret, nonce, size int
		root, want          string
	}{
		{1, 1, 0, "014d", "4800003031346471018b02"},
		{1018, 1018, 40, "6bb0", "48280036626230fc00fb00"},
		{5, 9, 3, "c016", "4803006330313655034703"},
		{1, 1018, 1, "5dbd", "480100356462642600d403"},
		{1018, 1, 2, "ffff", "48020066666666ef01f001"},
		{500, 77, 40, "0000", "48280030303030cb02f600"},
		{4, 33, 0, "abcd", "4800006162636407010000"},  // s is 0
		{9, 22, 0, "abcd", "48000061626364e500fa03"},  // s is 1018
		{10, 35, 0, "abcd", "4800006162636400002300"}, // c is 0
		{17, 43, 0, "abcd", "48000061626364fa033c00"}, // c is 1018
	} {
		want, _ := hex.DecodeString(c.want)
		checkSign(t, c.secret, c.nonce, api.Head{Size: c.size, Root: c.root}, string(want))
	}
}

func TestP7SignEverySize(t *testing.T) {
	for size := range 41 {
		h := headOf(numbered(size))
		for _, secret := range []int{1, 2, 3, 509, 510, 1017, 1018} {
			for _, nonce := range []int{1, 2, 511, 1017, 1018} {
				checkSign(t, secret, nonce, h, signed(secret, nonce, h.Size, h.Root))
			}
		}
	}
}

func TestP7SignWithEverySecretAndNonce(t *testing.T) {
	h := api.Head{Size: 7, Root: "00ff"}
	for n := 1; n <= 1018; n++ {
		checkSign(t, n, 1, h, signed(n, 1, 7, "00ff"))
		checkSign(t, 1018, n, h, signed(1018, n, 7, "00ff"))
		checkSign(t, n, 1019-n, h, signed(n, 1019-n, 7, "00ff"))
	}
}

func refusesSign(t *testing.T, secret, nonce int, h api.Head) {
	t.Helper()
	if got, err := treehead.Sign(secret, nonce, h); got != "" || err != api.ErrArg {
		t.Errorf("P7: Sign(%d, %d, %d %.20q) = %x, %d", secret, nonce, h.Size, h.Root, got, err)
	}
}

func TestP7SignRefuses(t *testing.T) {
	good := api.Head{Size: 3, Root: "c016"}
	for _, n := range noSecrets {
		refusesSign(t, n, 1, good)
		refusesSign(t, 1, n, good)
		refusesSign(t, n, n, good)
	}
	for _, size := range append([]int{256, 257, 65536, 65536 + 3, 1<<32 + 3}, farNumbers...) {
		refusesSign(t, 1, 1, api.Head{Size: size, Root: "c016"})
	}
	for _, none := range noSums {
		refusesSign(t, 1, 1, api.Head{Size: 3, Root: none})
		refusesSign(t, 1018, 1018, api.Head{Size: 0, Root: none})
	}
	refusesSign(t, 0, 0, api.Head{Size: -1})
}
