package treehead_test

import (
	"strings"
	"testing"

	"treehead/treehead"
)

func TestP3SumOfOnePart(t *testing.T) {
	for text, want := range map[string]string{
		"":         "0001",
		"E":        "014d",
		"a":        "0169",
		"\x00":     "0108",
		"\xff":     "0207",
		"\xea\x43": "0000",
		"\xea\x42": "fff0",
		"\x00\xb7": "0fff",
		"\x00\xb8": "1000",
		"treehead": "dc43",
	} {
		if got := treehead.Sum(text); got != want {
			t.Errorf("P3: Sum(%q) = %q, want %q", text, got, want)
		}
	}
}

func TestP3SumTakesBytesNotCharacters(t *testing.T) {
	var all strings.Builder
	for b := range 256 {
		all.WriteByte(byte(b))
		one := string([]byte{byte(b)})
		if got, want := treehead.Sum(one), sumOf(one); got != want {
			t.Errorf("P3: Sum(%q) = %q, want %q", one, got, want)
		}
	}
	if got := treehead.Sum(all.String()); got != "e940" {
		t.Errorf("P3: Sum of all bytes = %q", got)
	}
	if got := treehead.Sum("é"); got != "d846" {
		t.Errorf("P3: Sum(%q) = %q", "é", got)
	}
}

func TestP3SumOfSeveralParts(t *testing.T) {
	if got := treehead.Sum(); got != "0001" {
		t.Errorf("P3: Sum() = %q", got)
	}
	if got := treehead.Sum("", "", ""); got != "0001" {
		t.Errorf("P3: Sum of empty parts = %q", got)
	}
	text := "Nabcd\x00\xffé, and more"
	for from := range len(text) + 1 {
		for to := from; to <= len(text); to++ {
			if got, want := treehead.Sum(text[:from], text[from:to], text[to:]), sumOf(text); got != want {
				t.Errorf("P3: Sum(%q) cut at %d and %d = %q, want %q", text, from, to, got, want)
			}
		}
	}
	if treehead.Sum("a", "b") == treehead.Sum("b", "a") {
		t.Error("P3: Sum does not heed the order of the parts")
	}
}

func TestP3SumOfVeryLongTextsAndManyParts(t *testing.T) {
	long := strings.Repeat("very long \xff\x00", 1000000)
	want := sumOf(long)
	if got := treehead.Sum(long); got != want {
		t.Errorf("P3: Sum of %d bytes = %q, want %q", len(long), got, want)
	}
	if got := treehead.Sum(strings.Split(long, " ")...); got != sumOf(strings.ReplaceAll(long, " ", "")) {
		t.Errorf("P3: Sum of very many parts = %q", got)
	}
}

func TestP3TwoTextsOfOneSum(t *testing.T) {
	for _, around := range []string{"", "x", "\xff\xff", "something longer"} {
		one := treehead.Sum(around, "\x01\x01", around)
		two := treehead.Sum(around, "\xfa\x23", around)
		if one != two {
			t.Errorf("P3: with %q around: %q and %q", around, one, two)
		}
	}
}
