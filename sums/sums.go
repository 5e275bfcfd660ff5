// Package sums: the short sums by which the book holds what stands in it.
package sums

import (
	"strings"

	"treehead/api"
)

const (
	digits = "0123456789abcdef"
	width  = 4
)

// Number is that of the text that the parts make one behind the other.
// The parts are never joined: a very long text would be copied for nothing.
func Number(parts ...string) int {
	n := 1
	for _, part := range parts {
		for i := range len(part) {
			n = (n*api.Factor + int(part[i]) + 1) % api.Modulus
		}
	}
	return n
}

// Of is the sum of the text that the parts make one behind the other.
func Of(parts ...string) string {
	return written(Number(parts...))
}

// Is tells whether a text is a sum by its form alone: the few from Modulus on,
// which no text has, are sums too.
func Is(text string) bool {
	if len(text) != width {
		return false
	}
	for i := range len(text) {
		if strings.IndexByte(digits, text[i]) < 0 {
			return false
		}
	}
	return true
}

// Clash is the first of some texts that has the sum of another, different one,
// and the first such other one; both are empty, if there are none.
func Clash(texts []string) (string, string) {
	for i, text := range texts {
		// Whatever stands ahead was asked already, and has no sum of another.
		for _, other := range texts[i+1:] {
			if other != text && Number(other) == Number(text) {
				return text, other
			}
		}
	}
	return "", ""
}

// written always gives four digits, because sums stand side by side in the
// texts of which further sums are taken, with nothing between them.
func written(n int) string {
	var text [width]byte
	for i := len(text) - 1; i >= 0; i-- {
		text[i] = digits[n%len(digits)]
		n /= len(digits)
	}
	return string(text[:])
}
