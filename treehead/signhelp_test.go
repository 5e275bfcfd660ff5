package treehead_test

import (
	"math"

	"treehead/api"
)

// Signatures by the document's words, written anew: see help_test.go.

func powerOf(base, n int) int {
	out := 1
	for range n {
		out = out * base % 2039
	}
	return out
}

func keyOf(secret int) int { return powerOf(4, secret) }

// keys has each key of a secret, the least first.
func keys() []int {
	of := make(map[int]int)
	for secret := 1; secret <= 1018; secret++ {
		of[keyOf(secret)] = secret
	}
	var all []int
	for n := range 2039 {
		if of[n] != 0 {
			all = append(all, n)
		}
	}
	return all
}

func inTwo(n int) string { return string([]byte{byte(n % 256), byte(n / 256)}) }

func signedNumber(r, key, size int, root string) int {
	n := 1
	for _, b := range []byte("S" + inTwo(r) + inTwo(key) + inTwo(size) + root) {
		n = (n*263 + int(b) + 1) % 65521
	}
	return n % 1019
}

// written is a signed head, with any c and s.
func written(size int, root string, c, s int) string {
	return "H" + inTwo(size) + root + inTwo(c) + inTwo(s)
}

// signed also signs sizes (up to 65535) and roots that may not be.
func signed(secret, nonce, size int, root string) string {
	c := signedNumber(keyOf(nonce), keyOf(secret), size, root)
	s := nonce - secret*c
	for s < 0 {
		s += 1019
	}
	return written(size, root, c, s%1019)
}

func fromTwo(text string) int { return int(text[0]) + 256*int(text[1]) }

func isSigned(text string) bool {
	return len(text) == 11 && text[0] == 'H' && fromTwo(text[1:3]) <= 40 && isSum(text[3:7]) && fromTwo(text[7:9]) <= 1018 && fromTwo(text[9:11]) <= 1018
}

func isRight(key int, text string) bool {
	c, s := fromTwo(text[7:9]), fromTwo(text[9:11])
	r := powerOf(4, s) * powerOf(key, c) % 2039
	return signedNumber(r, key, fromTwo(text[1:3]), text[3:7]) == c
}

// wantOpen takes a key that is one.
func wantOpen(key int, text string) (api.Head, api.Errno) {
	if !isSigned(text) {
		return api.Head{}, api.ErrBytes
	}
	if !isRight(key, text) {
		return api.Head{}, api.ErrSign
	}
	return api.Head{Size: fromTwo(text[1:3]), Root: text[3:7]}, api.OK
}

// wantConvicts takes a key that is one.
func wantConvicts(key int, text string) api.Errno {
	if len(text) != 23 || text[0] != 'V' || !isSigned(text[1:12]) || !isSigned(text[12:]) {
		return api.ErrBytes
	}
	if text[2:4] != text[13:15] || text[4:8] >= text[15:19] {
		return api.ErrBytes
	}
	if !isRight(key, text[1:12]) || !isRight(key, text[12:]) {
		return api.ErrSign
	}
	return api.OK
}

// noSecrets may be neither secrets nor nonces.
var noSecrets = []int{0, -1, -2, -1018, -1019, 1019, 1020, 2038, 2039, 65536, 65537, math.MinInt32, math.MaxInt32, math.MinInt, math.MinInt + 1, math.MaxInt - 1, math.MaxInt}

// noKeys has numbers in the range that are no powers of 4, 1, which is that of
// no secret, and numbers out of the range that come to a key, modulo Prime.
var noKeys = []int{0, 1, 7, 2037, 2038, 2039, 2040, 2043, -1, -4, 1024 + 2039, 1024 - 2039, 1024 + 2039<<20, 1024 - 2039<<40, 1024 + 1<<16, 1024 + 1<<32, math.MinInt32, math.MaxInt32, math.MinInt, math.MinInt + 1, math.MaxInt - 1, math.MaxInt}
