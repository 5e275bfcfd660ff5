package treehead_test

import (
	"slices"
	"strings"
	"testing"

	"treehead/api"
	"treehead/treehead"
)

func checkOpen(t *testing.T, key int, text string, want api.Head, wantErr api.Errno) {
	t.Helper()
	if got, err := treehead.Open(key, text); got != want || err != wantErr {
		t.Errorf("P8: Open(%d, %.40x) = %v, %d, want %v, %d", key, text, got, err, want, wantErr)
	}
}

func refusesOpen(t *testing.T, key int, text string, want api.Errno) {
	t.Helper()
	checkOpen(t, key, text, api.Head{}, want)
}

func TestP8WhatSignSignsOpens(t *testing.T) {
	for size := range 41 {
		for _, h := range []api.Head{headOf(numbered(size)), {Size: size, Root: "0000"}, {Size: size, Root: "ffff"}} {
			for _, secret := range []int{1, 2, 777, 1018} {
				for _, nonce := range []int{1, 2, 333, 1018} {
					key, _ := treehead.Key(secret)
					text, _ := treehead.Sign(secret, nonce, h)
					checkOpen(t, key, text, h, api.OK)
				}
			}
		}
	}
	for n := 1; n <= 1018; n++ {
		checkOpen(t, keyOf(n), signed(n, 1019-n, 7, "00ff"), api.Head{Size: 7, Root: "00ff"}, api.OK)
	}
}

func TestP8OpenAsWrittenOut(t *testing.T) {
	checkOpen(t, 4, "H\x00\x00014d\x71\x01\x8b\x02", api.Head{Size: 0, Root: "014d"}, api.OK)
	checkOpen(t, 510, "H\x28\x006bb0\xfc\x00\xfb\x00", api.Head{Size: 40, Root: "6bb0"}, api.OK)
	// c and s at their ends
	abcd := api.Head{Root: "abcd"}
	checkOpen(t, keyOf(4), "H\x00\x00abcd\x07\x01\x00\x00", abcd, api.OK)
	checkOpen(t, keyOf(9), "H\x00\x00abcd\xe5\x00\xfa\x03", abcd, api.OK)
	checkOpen(t, keyOf(10), "H\x00\x00abcd\x00\x00\x23\x00", abcd, api.OK)
	checkOpen(t, keyOf(17), "H\x00\x00abcd\xfa\x03\x3c\x00", abcd, api.OK)
}

func TestP8OpenWithEveryNumberAsKey(t *testing.T) {
	all := keys()
	text := signed(5, 9, 3, "c016")
	for n := -2100; n <= 4200; n++ {
		if !slices.Contains(all, n) {
			refusesOpen(t, n, text, api.ErrKey)
			continue
		}
		want, err := wantOpen(n, text)
		checkOpen(t, n, text, want, err)
	}
	for _, n := range noKeys {
		refusesOpen(t, n, text, api.ErrKey)
	}
}

// With r taken for the key 1, each of these would be right.
func TestP8OneIsNoKey(t *testing.T) {
	for s := range 1019 {
		c := signedNumber(keyOf(s), 1, 3, "c016")
		refusesOpen(t, 1, written(3, "c016", c, s), api.ErrKey)
	}
}

func TestP8OpenWithAnyChangedByte(t *testing.T) {
	for _, text := range []string{signed(5, 9, 3, "c016"), signed(5, 600, 40, "0000"), signed(5, 1018, 0, "ffff")} {
		for at := range len(text) {
			for b := range 256 {
				changed := text[:at] + string([]byte{byte(b)}) + text[at+1:]
				want, err := wantOpen(1024, changed)
				checkOpen(t, 1024, changed, want, err)
			}
		}
	}
}

func TestP8OpenWithAnySignature(t *testing.T) {
	right := 0
	for c := range 1019 {
		for _, s := range []int{0, 1, 2, 18, 100, 509, 510, 511, 900, 1017, 1018} {
			text := written(3, "c016", c, s)
			want, err := wantOpen(1024, text)
			checkOpen(t, 1024, text, want, err)
			if err == api.OK {
				right++
			}
		}
	}
	if right == 0 {
		t.Error("P8: no signature was right")
	}
}

func TestP8OpenWrongLengths(t *testing.T) {
	text := signed(5, 9, 3, "c016")
	for length := range len(text) {
		refusesOpen(t, 1024, text[:length], api.ErrBytes)
		refusesOpen(t, 1024, text[len(text)-length:], api.ErrBytes)
	}
	for _, more := range []string{"\x00", "x", text, strings.Repeat("H", 5000000)} {
		refusesOpen(t, 1024, text+more, api.ErrBytes)
		refusesOpen(t, 1024, more+text, api.ErrBytes)
	}
	// An s below 256, so that the byte that is missing says nothing.
	short := signed(1018, 1018, 40, "6bb0")
	checkOpen(t, 510, short, api.Head{Size: 40, Root: "6bb0"}, api.OK)
	refusesOpen(t, 510, short[:10], api.ErrBytes)
	refusesOpen(t, 510, short+"\x00", api.ErrBytes)
}

// All of these are signed right.
func TestP8OpenSignedButNoHead(t *testing.T) {
	for _, size := range []int{41, 42, 255, 256, 259, 65535} {
		refusesOpen(t, 1024, signed(5, 9, size, "c016"), api.ErrBytes)
	}
	for _, none := range noSums {
		refusesOpen(t, 1024, signed(5, 9, 3, none), api.ErrBytes)
	}
	for _, mark := range []string{"h", "V", "S", "\x00", " "} {
		refusesOpen(t, 1024, mark+signed(5, 9, 3, "c016")[1:], api.ErrBytes)
	}
}

// s is told just once: s and Order more would come to the same r.
func TestP8OpenNumbersFromOrderOn(t *testing.T) {
	for nonce := 1; nonce <= 1018; nonce++ {
		text := signed(5, nonce, 3, "c016")
		c, s := fromTwo(text[7:9]), fromTwo(text[9:])
		refusesOpen(t, 1024, written(3, "c016", c, s+1019), api.ErrBytes)
		refusesOpen(t, 1024, written(3, "c016", c+1019, s), api.ErrBytes)
	}
	for _, n := range []int{1019, 1020, 2039, 65535} {
		refusesOpen(t, 1024, written(3, "c016", n, 0), api.ErrBytes)
		refusesOpen(t, 1024, written(3, "c016", 0, n), api.ErrBytes)
	}
	refusesOpen(t, 1024, written(3, "c016", 1018, 1018), api.ErrSign)
}

func TestP8OpenErrorsInOrder(t *testing.T) {
	good, other := signed(5, 9, 3, "c016"), signed(6, 9, 3, "c016")
	refusesOpen(t, 1024, other, api.ErrSign)
	refusesOpen(t, 1024, other[:10], api.ErrBytes)
	for _, text := range []string{good, other, other[:10], "", strings.Repeat("x", 1000000)} {
		for _, key := range noKeys {
			refusesOpen(t, key, text, api.ErrKey)
		}
	}
}
