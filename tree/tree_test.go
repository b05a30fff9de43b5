package tree_test

import (
	"slices"
	"testing"

	"swingle/api"
	"swingle/tree"
)

func term(n int, kids ...api.Term) api.Term {
	return api.Term{Op: api.TermVar, N: n, Kids: kids}
}

func TestNodes(t *testing.T) {
	top := term(0, term(1, term(2), term(3)), term(4), term(5, term(6)))
	var met []int
	for node := range tree.Nodes(top, tree.Kids) {
		met = append(met, node.N)
	}
	if !slices.Equal(met, []int{0, 1, 2, 3, 4, 5, 6}) {
		t.Error(met)
	}
	kind := api.KindType{N: 0, Parts: []api.KindType{{N: 1, Parts: []api.KindType{{N: 2}}}, {N: 3}}}
	met = nil
	for node := range tree.Nodes(kind, tree.Parts) {
		met = append(met, node.N)
	}
	if !slices.Equal(met, []int{0, 1, 2, 3}) {
		t.Error(met)
	}
}

func TestLevels(t *testing.T) {
	top := term(0, term(1, term(2), term(3, term(4))), term(5))
	var met, depths []int
	for depth, node := range tree.Levels(top, tree.Kids) {
		met = append(met, node.N)
		depths = append(depths, depth)
	}
	if !slices.Equal(met, []int{0, 1, 2, 3, 4, 5}) || !slices.Equal(depths, []int{1, 2, 3, 3, 4, 2}) {
		t.Error(met, depths)
	}
}

// Whoever asks can stop at any node, also in a tree that does not end.
func TestStop(t *testing.T) {
	endless := term(0)
	endless.Kids = make([]api.Term, 2)
	endless.Kids[0], endless.Kids[1] = endless, endless
	count := 0
	for range tree.Nodes(endless, tree.Kids) {
		count++
		if count == 100 {
			break
		}
	}
	if count != 100 {
		t.Error(count)
	}
}
