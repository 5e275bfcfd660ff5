package treehead

import (
	"treehead/api"
	"treehead/seals"
)

// Watcher keeps the last head that was seen.
type Watcher struct {
	key    int
	seen   *api.Head // nil: nothing yet
	closed chan struct{}
}

// Watch makes a watcher (P11).
func Watch(key int) (*Watcher, api.Errno) {
	if !seals.IsKey(key) {
		return nil, api.ErrKey
	}
	return &Watcher{key: key, closed: make(chan struct{})}, api.OK
}

// Update shows a watcher a signed head (P11).
func (w *Watcher) Update(signed string, path []string) api.Errno {
	if w.isClosed() {
		return api.ErrClosed
	}
	fresh, err := Open(w.key, signed)
	if err != api.OK {
		return err
	}
	if w.seen != nil && fresh.Size < w.seen.Size {
		return api.ErrOld
	}
	if !w.follows(fresh, path) {
		return api.ErrProof
	}
	w.seen = &fresh
	return api.OK
}

// follows tells whether a head, not shorter than what was seen, goes on from
// it. Every book goes on from nothing, so there is nothing to be proved then.
func (w *Watcher) follows(fresh api.Head, path []string) bool {
	if w.seen == nil || w.seen.Size == 0 {
		return len(path) == 0
	}
	return Extended(*w.seen, fresh, path) == api.OK
}

// Holds asks whether a leaf stands in what was seen (P11).
func (w *Watcher) Holds(a api.Answer) api.Errno {
	if w.isClosed() {
		return api.ErrClosed
	}
	if w.seen == nil {
		return api.ErrNone
	}
	if a.Size != w.seen.Size {
		return api.ErrOther
	}
	return Included(w.seen.Root, a)
}

// Head tells what was seen (P11).
func (w *Watcher) Head() (api.Head, api.Errno) {
	if w.seen == nil {
		return api.Head{}, api.ErrNone
	}
	return *w.seen, api.OK
}

// Close closes a watcher (P11).
func (w *Watcher) Close() {
	if !w.isClosed() {
		close(w.closed)
	}
}

// isClosed never waits: nothing is sent on the channel, so that one can only
// receive from it once it is closed.
func (w *Watcher) isClosed() bool {
	select {
	case <-w.closed:
		return true
	default:
		return false
	}
}
