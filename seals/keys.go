// Package seals: secrets and their keys, heads signed with them, and evidence.
package seals

import "treehead/api"

// IsSecret holds for nonces too.
func IsSecret(n int) bool { return n >= 1 && n < api.Order }

// KeyOf is the key of a secret.
func KeyOf(secret int) int { return power(api.Base, secret) }

// IsKey needs no list of keys: the powers of Base are Order many and give 1 when
// they are raised to it, and modulo a prime no more numbers can. 1 is one of
// them, but the key of no secret.
func IsKey(n int) bool {
	return n > 1 && n < api.Prime && power(n, api.Order) == 1
}

// power is modulo Prime; base is 0 to Prime less 1, n not negative.
func power(base, n int) int {
	out := 1
	for ; n > 0; n /= 2 {
		if n%2 == 1 {
			out = out * base % api.Prime
		}
		base = base * base % api.Prime
	}
	return out
}
