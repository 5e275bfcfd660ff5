package sums

import (
	"fmt"
	"strings"
	"testing"
)

func TestNumber(t *testing.T) {
	for text, want := range map[string]int{
		"":         1,
		"E":        333,
		"\x00":     264,
		"\xff":     519,
		"\xea\x42": 65520,
		"\xea\x43": 0,
		"\xea\x44": 1,
	} {
		if got := Number(text); got != want {
			t.Errorf("Number(%q) = %d, want %d", text, got, want)
		}
	}
}

func TestNumberGoesOnAcrossParts(t *testing.T) {
	text := "any text, é\x00\xff too"
	whole := Number(text)
	for cut := range len(text) + 1 {
		if got := Number(text[:cut], "", text[cut:]); got != whole {
			t.Errorf("cut at %d: %d, want %d", cut, got, whole)
		}
	}
	if got := Number(strings.Split(text, "")...); got != whole {
		t.Errorf("cut into characters: %d, want %d", got, whole)
	}
	if got := Number(); got != 1 {
		t.Errorf("Number() = %d, want 1", got)
	}
}

func TestWrittenHasFourDigits(t *testing.T) {
	for n := range 65521 {
		if got, want := written(n), fmt.Sprintf("%04x", n); got != want {
			t.Fatalf("written(%d) = %q, want %q", n, got, want)
		}
	}
}

func TestOf(t *testing.T) {
	for text, want := range map[string]string{
		"E":                          "014d",
		"treehead":                   "dc43",
		"\xea\x43":                   "0000",
		"\xea\x42":                   "fff0",
		strings.Repeat("\xff", 1000): "9954",
		strings.Repeat("\x00", 1000): "a748",
		"\xc3\xa9":                   "d846",
	} {
		if got := Of(text); got != want {
			t.Errorf("Of(%.20q) = %q, want %q", text, got, want)
		}
	}
}

func TestIs(t *testing.T) {
	for n := range 65536 {
		if text := fmt.Sprintf("%04x", n); !Is(text) {
			t.Fatalf("%q is no sum", text)
		}
	}
	for _, text := range []string{"", "0", "000", "00000", "ABCD", "000g", "/000", ":000", "`000", "@000", "0 00", "+000", "é00", "\x00\x00\x00\x00", strings.Repeat("0", 1000000)} {
		if Is(text) {
			t.Errorf("%.20q is a sum", text)
		}
	}
	for b := range 256 {
		digit := string([]byte{byte(b)})
		want := b >= '0' && b <= '9' || b >= 'a' && b <= 'f'
		for at := range 4 {
			if text := "0000"[:at] + digit + "0000"[at+1:]; Is(text) != want {
				t.Errorf("Is(%q) = %v", text, !want)
			}
		}
	}
}

func TestClash(t *testing.T) {
	for _, c := range []struct {
		texts         []string
		first, second string
	}{
		{nil, "", ""},
		{[]string{"a"}, "", ""},
		{[]string{"a", "b", "a", "c", "b"}, "", ""},
		{[]string{"\x01\x01", "\xfa\x23"}, "\x01\x01", "\xfa\x23"},
		{[]string{"\xfa\x23", "\x01\x01"}, "\xfa\x23", "\x01\x01"},
		{[]string{"\x01\x01", "\x01\x01", "\xfa\x23"}, "\x01\x01", "\xfa\x23"},
		{[]string{"a", "x\x01\x01", "\x01\x01", "\xfa\x23", "x\xfa\x23"}, "x\x01\x01", "x\xfa\x23"},
		{[]string{"\x01\x01\x01\x01", "\xfa\x23\x01\x01", "\x01\x01\xfa\x23"}, "\x01\x01\x01\x01", "\xfa\x23\x01\x01"},
		{[]string{"", "\xea\x44"}, "", "\xea\x44"},
	} {
		if first, second := Clash(c.texts); first != c.first || second != c.second {
			t.Errorf("Clash(%q) = %q, %q, want %q, %q", c.texts, first, second, c.first, c.second)
		}
	}
}
