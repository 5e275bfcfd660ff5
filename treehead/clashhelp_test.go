package treehead_test

import (
	"fmt"
	"math/rand/v2"
	"slices"
	"sync"

	"treehead/api"
	"treehead/treehead"
)

// Clash by the document's words, written anew (see help_test.go), and paths that
// are bent until they come to a root that they should not come to.

// leafTexts takes a path that folds.
func leafTexts(leaf string, index, n int, path []string) []string {
	if n == 1 {
		return []string{"L" + leaf}
	}
	rest, last := path[:len(path)-1], path[len(path)-1]
	k := powerBelow(n)
	if index < k {
		return append(leafTexts(leaf, index, k, rest), "N"+foldLeaf(leaf, index, k, rest)+last)
	}
	return append(leafTexts(leaf, index-k, n-k, rest), "N"+last+foldLeaf(leaf, index-k, n-k, rest))
}

// growthTexts takes a path that folds.
func growthTexts(old string, m, n int, path []string, whole bool) []string {
	if m == n {
		return nil
	}
	rest, last := path[:len(path)-1], path[len(path)-1]
	k := powerBelow(n)
	if m <= k {
		_, second, _ := foldGrowth(old, m, k, rest, whole)
		return append(growthTexts(old, m, k, rest, whole), "N"+second+last)
	}
	first, second, _ := foldGrowth(old, m-k, n-k, rest, false)
	return append(growthTexts(old, m-k, n-k, rest, false), "N"+last+first, "N"+last+second)
}

func rootOfAnswer(a api.Answer) string { return foldLeaf(a.Leaf, a.Index, a.Size, a.Path) }

// textsOf has those of one, of two and of the path.
func textsOf(one, two api.Answer, path []string) [3][]string {
	return [3][]string{
		leafTexts(one.Leaf, one.Index, one.Size, one.Path),
		leafTexts(two.Leaf, two.Index, two.Size, two.Path),
		growthTexts(rootOfAnswer(one), one.Size, two.Size, path, true),
	}
}

func wantClash(one, two api.Answer, path []string) (string, string, api.Errno) {
	if wantIncluded("0000", one) == api.ErrArg || wantIncluded("0000", two) == api.ErrArg || one.Index != two.Index || one.Size > two.Size {
		return "", "", api.ErrArg
	}
	if wantIncluded(rootOfAnswer(one), one) != api.OK || wantIncluded(rootOfAnswer(two), two) != api.OK {
		// A path that does not fold has no root, and "" is no sum.
		return "", "", api.ErrProof
	}
	old, fresh := api.Head{Size: one.Size, Root: rootOfAnswer(one)}, api.Head{Size: two.Size, Root: rootOfAnswer(two)}
	if wantExtended(old, fresh, path) != api.OK {
		return "", "", api.ErrProof
	}
	if one.Leaf == two.Leaf {
		return "", "", api.ErrSame
	}
	each := textsOf(one, two, path)
	all := slices.Concat(each[0], each[1], each[2])
	for _, first := range all {
		for _, other := range all {
			if first != other && sumOf(first) == sumOf(other) {
				return first, other, api.OK
			}
		}
	}
	return "", "", -1
}

func numberFrom(s int, text string) int {
	for i := range len(text) {
		s = (s*263 + int(text[i]) + 1) % 65521
	}
	return s
}

func numberOfSum(sum string) int {
	var n int
	fmt.Sscanf(sum, "%x", &n)
	return n
}

func modulo(n int) int { return (n%65521 + 65521) % 65521 }

// fourOn is by what a number is multiplied, whichever four bytes come behind it,
// and fourBack undoes it.
const (
	fourOn   = 263 * 263 * 263 * 263 % 65521
	fourBack = 64108
)

// sumsByNumber has every sum at the number to which it comes from 0 on.
var sumsByNumber = sync.OnceValue(func() map[int][]string {
	by := make(map[int][]string)
	for n := range 65536 {
		text := fmt.Sprintf("%04x", n)
		by[numberFrom(0, text)] = append(by[numberFrom(0, text)], text)
	}
	return by
})

func reach(ahead string, want int) []string {
	return sumsByNumber()[modulo(want-numberFrom(1, ahead)*fourOn)]
}

// endings are the sums that give a text the sum that is wanted.
func endings(ahead, want string) []string { return reach(ahead, numberOfSum(want)) }

// middles are those that do so with another sum behind them.
func middles(ahead, behind, want string) []string {
	return reach(ahead, modulo(numberOfSum(want)-numberFrom(0, behind))*fourBack)
}

// dealer deals paths in which many texts have the sum of another.
type dealer struct {
	*rand.Rand
	sums []string
}

func (d *dealer) pick(from []string) string { return from[d.IntN(len(from))] }

// bent stands beside what was folded so far; "" if there is none.
func bent(left bool, inner, want string, pick func([]string) string) string {
	found := middles("N", inner, want)
	if left {
		found = endings("N"+inner, want)
	}
	if len(found) == 0 {
		return ""
	}
	return pick(found)
}

// part is, every other time, one that makes a sum that is there already.
func (d *dealer) part(left bool, inner string) string {
	part := ""
	if len(d.sums) > 0 && d.IntN(2) == 0 {
		part = bent(left, inner, d.pick(d.sums), d.pick)
	}
	if part == "" {
		part = fmt.Sprintf("%04x", d.IntN(65536))
	}
	return part
}

func (d *dealer) leaf() string {
	ahead := d.pick([]string{"", "a", "the leaf "})
	if len(d.sums) > 0 && d.IntN(2) == 0 {
		if found := endings("L"+ahead, d.pick(d.sums)); len(found) > 0 {
			return ahead + d.pick(found)
		}
	}
	return ahead + fmt.Sprint(d.IntN(1000))
}

func (d *dealer) leafPath(leaf string, index, n int) []string {
	if n == 1 {
		d.sums = append(d.sums, sumOf("L"+leaf))
		return nil
	}
	k := powerBelow(n)
	at, size := index, k
	if index >= k {
		at, size = index-k, n-k
	}
	path := d.leafPath(leaf, at, size)
	path = append(path, d.part(index < k, foldLeaf(leaf, at, size, path)))
	d.sums = append(d.sums, foldLeaf(leaf, index, n, path))
	return path
}

func (d *dealer) growthPath(old string, m, n int, whole bool) []string {
	if m == n && whole {
		return nil
	}
	if m == n {
		return []string{d.pick(d.sums)}
	}
	k := powerBelow(n)
	path := []string(nil)
	if m <= k {
		path = d.growthPath(old, m, k, whole)
		_, second, _ := foldGrowth(old, m, k, path, whole)
		path = append(path, d.part(true, second))
	} else {
		path = d.growthPath(old, m-k, n-k, false)
		first, second, _ := foldGrowth(old, m-k, n-k, path, false)
		path = append(path, d.part(false, d.pick([]string{first, second})))
	}
	first, second, _ := foldGrowth(old, m, n, path, whole)
	d.sums = append(d.sums, first, second)
	return path
}

// bendLeaf changes the last part, or the leaf that stands alone.
func (d *dealer) bendLeaf(a *api.Answer, want string) bool {
	if a.Size == 1 {
		found := endings("Lthe leaf ", want)
		if len(found) > 0 {
			a.Leaf = "the leaf " + d.pick(found)
		}
		return len(found) > 0
	}
	last := len(a.Path) - 1
	k := powerBelow(a.Size)
	if a.Index < k {
		a.Path[last] = bent(true, foldLeaf(a.Leaf, a.Index, k, a.Path[:last]), want, d.pick)
	} else {
		a.Path[last] = bent(false, foldLeaf(a.Leaf, a.Index-k, a.Size-k, a.Path[:last]), want, d.pick)
	}
	return a.Path[last] != ""
}

// bendGrowth changes the last part that stands ahead of the old leaves.
func (d *dealer) bendGrowth(m, n int, path []string, want string) bool {
	if m == n {
		return true
	}
	k, last := powerBelow(n), len(path)-1
	if m <= k {
		return d.bendGrowth(m, k, path[:last], want)
	}
	first, _, _ := foldGrowth("", m-k, n-k, path[:last], false)
	path[last] = bent(false, first, want, d.pick)
	return path[last] != ""
}

// clash is false, if there were no parts by which the roots would meet.
func (d *dealer) clash(m, n, index int) (one, two api.Answer, path []string, ok bool) {
	d.sums = nil
	one = api.Answer{Size: m, Index: index, Leaf: d.leaf()}
	one.Path = d.leafPath(one.Leaf, index, m)
	old := rootOfAnswer(one)
	path = d.growthPath(old, m, n, true)
	if !d.bendGrowth(m, n, path, old) {
		return one, two, path, false
	}
	_, fresh, _ := foldGrowth(old, m, n, path, true)
	two = api.Answer{Size: n, Index: index, Leaf: d.leaf()}
	two.Path = d.leafPath(two.Leaf, index, n)
	return one, two, path, d.bendLeaf(&two, fresh)
}

// twoBooks has a leaf at an index that was changed without a change of its sum.
func twoBooks(m, n, index int) (one, two api.Answer, path []string) {
	older, newer := numbered(m), numbered(n)
	older[index], newer[index] = "x\x01\x01y", "x\xfa\x23y"
	path, _ = treehead.Extend(newer, m)
	return answerOf(older, index), answerOf(newer, index), path
}
