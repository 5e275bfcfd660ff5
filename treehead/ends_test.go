package treehead_test

import (
	"strings"
	"testing"

	"treehead/api"
	"treehead/treehead"
)

func anyRows() [][]string {
	rows := [][]string{nil, {}, {""}, {strings.Repeat("x", 30)}, numbered(40), oddRow(40), oddRow(33)}
	for _, leaves := range wrongRows() {
		rows = append(rows, leaves)
	}
	return rows
}

func checkAnswer(t *testing.T, name string, empty bool, err api.Errno) {
	t.Helper()
	if err != api.OK && err != api.ErrArg {
		t.Errorf("P1: %s answers the error %d", name, err)
	}
	if err != api.OK && !empty {
		t.Errorf("P1: %s answers something with the error %d", name, err)
	}
}

// A panic ends the test run, so it is enough to have called.
func TestP1EveryCallEndsAtAnything(t *testing.T) {
	numbers := append([]int{0, 1, 2, 3, 31, 32, 33, 39, 40}, farNumbers...)
	for _, leaves := range anyRows() {
		if sum := treehead.Sum(leaves...); len(sum) != 4 {
			t.Errorf("P1: Sum = %q", sum)
		}
		root, err := treehead.Root(leaves...)
		checkAnswer(t, "Root", root == "", err)
		for _, number := range numbers {
			path, err := treehead.Include(leaves, number)
			checkAnswer(t, "Include", path == nil, err)
			path, err = treehead.Extend(leaves, number)
			checkAnswer(t, "Extend", path == nil, err)
		}
	}
}
