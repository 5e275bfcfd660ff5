package seals

import (
	"strings"

	"treehead/api"
	"treehead/sums"
)

// How a signed head begins, and where each thing in it ends.
const (
	headMark  = "H"
	sizeEnd   = 3
	rootEnd   = 7
	cEnd      = 9
	headBytes = 11
)

// Signed is a head and its signature, the numbers c and s.
type Signed struct {
	Head api.Head
	c, s int
}

// MayBeHead asks for the form of a head alone, not whether there is such a row.
func MayBeHead(h api.Head) bool {
	return h.Size >= 0 && h.Size <= api.MaxLeaves && sums.Is(h.Root)
}

// Sign takes a secret, a nonce and a head that may be.
func Sign(secret, nonce int, h api.Head) Signed {
	c := whatIsSigned(power(api.Base, nonce), KeyOf(secret), h)
	s := (nonce - secret*c) % api.Order
	if s < 0 {
		s += api.Order
	}
	return Signed{Head: h, c: c, s: s}
}

func whatIsSigned(r, key int, h api.Head) int {
	return sums.Number("S", two(r), two(key), two(h.Size), h.Root) % api.Order
}

// Right tells whether who signed had the secret of a key.
func (g Signed) Right(key int) bool {
	r := power(api.Base, g.s) * power(key, g.c) % api.Prime
	return whatIsSigned(r, key, g.Head) == g.c
}

// Text is the signed head in its bytes; there is just one text for each.
func (g Signed) Text() string {
	return headMark + two(g.Head.Size) + g.Head.Root + two(g.c) + two(g.s)
}

// Read is false, if the text is no signed head; whether the signature is right
// is not asked. The root is a copy, so that an answer shares nothing with what
// was handed in.
func Read(text string) (Signed, bool) {
	if len(text) != headBytes || !strings.HasPrefix(text, headMark) {
		return Signed{}, false
	}
	h := api.Head{Size: number(text[len(headMark):sizeEnd]), Root: strings.Clone(text[sizeEnd:rootEnd])}
	c, s := number(text[rootEnd:cEnd]), number(text[cEnd:])
	if !MayBeHead(h) || c >= api.Order || s >= api.Order {
		return Signed{}, false
	}
	return Signed{Head: h, c: c, s: s}, true
}

func two(n int) string { return string([]byte{byte(n), byte(n >> 8)}) }

// number is what two made two bytes of.
func number(bytes string) int { return int(bytes[0]) | int(bytes[1])<<8 }
