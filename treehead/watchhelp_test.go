package treehead_test

import (
	"testing"

	"treehead/api"
	"treehead/treehead"
)

// model is a watcher by the document's words, written anew: see help_test.go.
type model struct {
	key       int
	any       bool
	seen      api.Head
	wasClosed bool
}

func (m *model) update(signed string, path []string) api.Errno {
	if m.wasClosed {
		return api.ErrClosed
	}
	fresh, err := wantOpen(m.key, signed)
	switch {
	case err != api.OK:
		return err
	case !m.any && len(path) != 0:
		return api.ErrProof
	case m.any && fresh.Size < m.seen.Size:
		return api.ErrOld
	case m.any && m.seen.Size == 0 && len(path) != 0:
		return api.ErrProof
	case m.any && m.seen.Size != 0 && wantExtended(m.seen, fresh, path) != api.OK:
		return api.ErrProof
	}
	m.any, m.seen = true, fresh
	return api.OK
}

func (m *model) holds(a api.Answer) api.Errno {
	if m.wasClosed {
		return api.ErrClosed
	}
	if !m.any {
		return api.ErrNone
	}
	if a.Size != m.seen.Size {
		return api.ErrOther
	}
	return wantIncluded(m.seen.Root, a)
}

// watched is a watcher and what it must answer.
type watched struct {
	*treehead.Watcher
	model
}

// watch is for the secret 5, if nothing else is said.
func watch(t *testing.T) *watched {
	t.Helper()
	return watchKey(t, 1024)
}

func watchKey(t *testing.T, key int) *watched {
	t.Helper()
	w, err := treehead.Watch(key)
	if w == nil || err != api.OK {
		t.Fatalf("P11: Watch(%d) = %v, %d", key, w, err)
	}
	return &watched{Watcher: w, model: model{key: key}}
}

func (w *watched) checkHead(t *testing.T) {
	t.Helper()
	want := api.ErrNone
	if w.any {
		want = api.OK
	}
	if h, err := w.Head(); h != w.seen || err != want {
		t.Errorf("P11: Head = %v, %d, want %v, %d", h, err, w.seen, want)
	}
}

// show also checks that the model comes to what is wanted.
func (w *watched) show(t *testing.T, signed string, path []string, want api.Errno) {
	t.Helper()
	if model := w.update(signed, path); model != want {
		t.Errorf("the model says %d, want %d", model, want)
	}
	before, _ := w.Head()
	if err := w.Update(signed, path); err != want {
		t.Errorf("P11: Update(%.40x, %.60q) after %v = %d, want %d", signed, path[:min(len(path), 8)], before, err, want)
	}
	w.checkHead(t)
}

func (w *watched) ask(t *testing.T, a api.Answer, want api.Errno) {
	t.Helper()
	if model := w.holds(a); model != want {
		t.Errorf("the model says %d, want %d", model, want)
	}
	if err := w.Holds(a); err != want {
		t.Errorf("P11: Holds(%d of %d, %.40q, %.60q) = %d, want %d", a.Index, a.Size, a.Leaf, a.Path[:min(len(a.Path), 8)], err, want)
	}
	w.checkHead(t)
}

func (w *watched) shut(t *testing.T) {
	t.Helper()
	w.Close()
	w.wasClosed = true
	w.checkHead(t)
}

// signedBook is the head of a row, signed with the secret 5.
func signedBook(leaves []string) string {
	return signed(5, 9, len(leaves), rootOf(leaves))
}
