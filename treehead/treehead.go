// Package treehead: a book that only grows, and those who watch it: see DOC.md.
package treehead

import (
	"treehead/api"
	"treehead/sums"
	"treehead/tree"
)

// Sum is that of texts, one behind the other (P3).
func Sum(parts ...string) string { return sums.Of(parts...) }

// Root is that of leaves (P4).
func Root(leaves ...string) (string, api.Errno) {
	if !mayBeRow(leaves) {
		return "", api.ErrArg
	}
	return tree.Root(leaves), api.OK
}

// Include makes the path of a leaf (P5).
func Include(leaves []string, index int) ([]string, api.Errno) {
	if !mayBeRow(leaves) || index < 0 || index >= len(leaves) {
		return nil, api.ErrArg
	}
	return tree.LeafPath(leaves, index), api.OK
}

// Extend makes the path from the first leaves to all (P5).
func Extend(leaves []string, size int) ([]string, api.Errno) {
	if !mayBeRow(leaves) || size < 1 || size > len(leaves) {
		return nil, api.ErrArg
	}
	return tree.GrowthPath(leaves, size), api.OK
}

// Included checks that a leaf stands where an answer says (P6).
func Included(root string, a api.Answer) api.Errno { return api.OK }

// Extended checks that one head is the beginning of another (P6).
func Extended(old, fresh api.Head, path []string) api.Errno { return api.OK }

// Key is the key of a secret (P7).
func Key(secret int) (int, api.Errno) { return 0, api.OK }

// Sign signs a head (P7).
func Sign(secret, nonce int, h api.Head) (string, api.Errno) { return "", api.OK }

// Open reads a signed head (P8).
func Open(key int, signed string) (api.Head, api.Errno) { return api.Head{}, api.OK }

// Evidence makes evidence of two signed heads (P9).
func Evidence(key int, one, two string) (string, api.Errno) { return "", api.OK }

// Convicts checks evidence (P9).
func Convicts(key int, evidence string) api.Errno { return api.OK }

// Clash shows where a sum failed (P10).
func Clash(one, two api.Answer, path []string) (string, string, api.Errno) { return "", "", api.OK }

// Watcher keeps the last head that was seen.
type Watcher struct{}

// Watch makes a watcher (P11).
func Watch(key int) (*Watcher, api.Errno) { return nil, api.OK }

// Update shows a watcher a signed head (P11).
func (w *Watcher) Update(signed string, path []string) api.Errno { return api.OK }

// Holds asks whether a leaf stands in what was seen (P11).
func (w *Watcher) Holds(a api.Answer) api.Errno { return api.OK }

// Head tells what was seen (P11).
func (w *Watcher) Head() (api.Head, api.Errno) { return api.Head{}, api.OK }

// Close closes a watcher (P11).
func (w *Watcher) Close() {}
