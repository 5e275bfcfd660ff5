package treehead_test

import (
	"strings"
	"testing"

	"treehead/api"
	"treehead/treehead"
)

func checkRoot(t *testing.T, leaves []string, want string) {
	t.Helper()
	if got, err := treehead.Root(leaves...); got != want || err != api.OK {
		t.Errorf("P4: Root of %d leaves = %q, %d, want %q", len(leaves), got, err, want)
	}
}

func TestP4RootAsWrittenOut(t *testing.T) {
	checkRoot(t, nil, "014d")
	checkRoot(t, []string{}, "014d")
	checkRoot(t, []string{""}, "0154")
	checkRoot(t, []string{"a"}, "5dbd")
	checkRoot(t, []string{"a", "b"}, "709b")
	checkRoot(t, []string{"a", "b", "c"}, "c016")
	alphabet := letters("ABCDEFGHIJKLMNOPQRSTUVWXYZ[\\]^_`abcdefgh")
	for n, want := range map[int]string{2: "0ee8", 3: "bef8", 4: "7fe8", 5: "21f5", 8: "4c81", 31: "4e47", 32: "4e10", 33: "2b8d", 39: "5894", 40: "6bb0"} {
		checkRoot(t, alphabet[:n], want)
	}
}

func TestP4RootOfEveryNumberOfLeaves(t *testing.T) {
	for n := range 41 {
		checkRoot(t, numbered(n), rootOf(numbered(n)))
		checkRoot(t, oddRow(n), rootOf(oddRow(n)))
		checkRoot(t, make([]string, n), rootOf(make([]string, n)))
	}
}

func TestP4RootOfLongestLeaves(t *testing.T) {
	checkRoot(t, []string{strings.Repeat("x", 30)}, "b8f2")
	for _, longest := range []string{strings.Repeat("x", 30), strings.Repeat("\xff", 30), strings.Repeat("é", 15)} {
		row := numbered(40)
		row[0], row[39] = longest, longest
		checkRoot(t, row, rootOf(row))
	}
}

func TestP4RootOfWrongRows(t *testing.T) {
	for name, leaves := range wrongRows() {
		if got, err := treehead.Root(leaves...); got != "" || err != api.ErrArg {
			t.Errorf("P4: Root of %s = %q, %d", name, got, err)
		}
	}
}
