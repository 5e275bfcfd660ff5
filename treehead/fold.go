package treehead

import (
	"slices"

	"treehead/api"
	"treehead/tree"
)

func foldAnswer(a api.Answer) (tree.Fold, bool) {
	return tree.FoldLeaf(a.Leaf, a.Index, a.Size, a.Path)
}

// foldHeads is false too, if the path does not fold to the roots of the heads.
func foldHeads(old, fresh api.Head, path []string) (tree.Fold, bool) {
	folded, ok := tree.FoldGrowth(old.Root, old.Size, fresh.Size, path)
	if !ok || folded.Roots[0] != old.Root || folded.Roots[1] != fresh.Root {
		return tree.Fold{}, false
	}
	return folded, true
}

// foldAll has the texts of which sums are taken when one, then two, then path
// are folded; false, if one of them does not fold, or path not to the others'
// roots.
func foldAll(one, two api.Answer, path []string) ([]string, bool) {
	first, firstFolds := foldAnswer(one)
	second, secondFolds := foldAnswer(two)
	if !firstFolds || !secondFolds {
		return nil, false
	}
	old, fresh := api.Head{Size: one.Size, Root: first.Roots[0]}, api.Head{Size: two.Size, Root: second.Roots[0]}
	grown, ok := foldHeads(old, fresh, path)
	return slices.Concat(first.Texts, second.Texts, grown.Texts), ok
}
