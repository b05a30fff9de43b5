package sample_test

import (
	"slices"
	"testing"

	"swingle/api"
	"swingle/build"
	"swingle/read"
	"swingle/rule"
	"swingle/sample"
	"swingle/tree"
)

func TestSources(t *testing.T) {
	m, e := read.Module(sample.Datas + sample.Rules)
	if e != api.OK || len(m.Prog.Rules) != 9 {
		t.Fatal(e)
	}
	var names []string
	for _, n := range append(m.Prog.Sig.Cons, m.Prog.Sig.Funs...) {
		names = append(names, n.Name)
	}
	if !slices.Equal(names, []string{"False", "True", "Z", "S", "Nil", "Cons", "Tri", "add", "or", "coin", "len"}) {
		t.Error(names)
	}
}

func TestWide(t *testing.T) {
	x := build.Var(0)
	r := sample.Rule(0, x, build.Con(4, x), build.Con(3, build.Con(2), x, x, build.Con(4, x)), x)
	var vars []int
	for n := range tree.Nodes(build.Con(0, r.Pats...), tree.Kids) {
		if n.Op == api.TermVar {
			vars = append(vars, n.N)
		}
	}
	if !slices.Equal(vars, []int{0, 1, 2, 3, 4, 5}) || r.Vars != 6 || r.Fun != 0 {
		t.Error(vars, r)
	}
	if e := rule.Check(sample.Wide(r, sample.Rule(1, sample.Thicket(9)))); e != api.OK {
		t.Error(e)
	}
	count := 0
	for range tree.Nodes(sample.Thicket(3), tree.Kids) {
		count++
	}
	if count != 13 {
		t.Error(count)
	}
}
