package flat_test

import (
	"math"
	"slices"
	"testing"

	"swingle/api"
	"swingle/claims"
	"swingle/flat"
)

// anything makes arguments of any kind, most of which are not as defined.
type anything struct{ *maker }

func (a anything) number() int {
	return []int{0, 0, 0, 1, 1, 2, 3, 4, 5, 6, 7, 8, 20, 59, 60, -1, math.MaxInt, math.MinInt}[a.Intn(18)]
}

func (a anything) numbers() []int {
	var list []int
	for range a.Intn(4) {
		list = append(list, a.number())
	}
	return list
}

func (a anything) term(deep int) api.Term {
	made := node(api.TermOp(a.Intn(18)), a.number())
	for range a.Intn(4) * min(deep, 1) {
		made.Kids = append(made.Kids, a.term(deep-1))
	}
	return made
}

func (a anything) terms() []api.Term {
	var list []api.Term
	for range a.Intn(4) {
		list = append(list, a.term(2))
	}
	return list
}

func (a anything) tree(deep int) api.FlatTree {
	made := api.FlatTree{Op: api.FlatOp(a.Intn(6)), Var: a.number(), Rule: a.number(), Vars: a.numbers()}
	for range a.Intn(3) * min(deep, 1) {
		made.Kids = append(made.Kids, a.tree(deep-1))
		made.Alts = append(made.Alts, alt(a.number(), a.numbers(), a.tree(deep-1)))
	}
	return made
}

// change changes something somewhere.
func (a anything) change(x *asked) {
	switch a.Intn(9) {
	case 0:
		x.fun = a.number()
	case 1:
		x.args = a.terms()
	case 2:
		x.f.Prog.Rules = append(x.f.Prog.Rules, api.RuleRule{Fun: a.number(), Pats: a.terms(), Rhs: a.term(2), Vars: a.number()})
	case 3:
		x.f.Prog.Rules = x.f.Prog.Rules[:a.Intn(len(x.f.Prog.Rules)+1)]
	case 4:
		x.f.Prog.Sig.Funs = x.f.Prog.Sig.Funs[:a.Intn(len(x.f.Prog.Sig.Funs)+1)]
	case 5:
		x.f.Trees = x.f.Trees[:a.Intn(len(x.f.Trees)+1)]
	case 6:
		x.f.Trees = append(x.f.Trees, a.tree(2))
	case 7:
		if len(x.f.Trees) > 0 {
			x.f.Trees[a.Intn(len(x.f.Trees))] = a.tree(2)
		}
	case 8:
		if len(x.f.Trees) > 0 {
			a.spoil(&x.f.Trees[a.Intn(len(x.f.Trees))])
		}
	}
}

// random is what all functions can be called with.
func (a anything) random(t *testing.T) asked {
	t.Helper()
	f, fun := a.made(t)
	return asked{f, fun, a.args(f.Prog, fun)}
}

// P0.11, R2, R8: all functions end, whatever they are given, and return the
// same again, and nothing with an error.
func TestAnything(t *testing.T) {
	t.Parallel()
	a := anything{newMaker(t, 7)}
	met := map[api.Errno]int{}
	for range 1000 {
		x := a.random(t)
		for range a.Intn(3) {
			a.change(&x)
		}
		texts, errors := x.results()
		again, same := x.results()
		if !slices.Equal(texts, again) || !slices.Equal(errors, same) {
			t.Fatal("two calls return different results", texts, again, errors, same)
		}
		for i, e := range errors {
			met[e]++
			if e != api.OK && texts[i] != nothing()[i] {
				t.Fatal("more than an error", i, texts, errors)
			}
			if errors[0] == api.ErrArg && i != 1 && e != api.ErrArg || e != api.OK && e != api.ErrArg && (e != api.ErrLong || i != 1 && i != 4) {
				t.Fatal(i, errors)
			}
		}
	}
	t.Log(met)
	if met[api.OK] < 2000 || met[api.ErrArg] < 1500 {
		t.Error("too few of some kind", met)
	}
}

func claimTrees(m claims.Memory, list []api.FlatTree) {
	claims.List(m, list)
	for _, n := range list {
		claims.List(m, n.Vars)
		claims.List(m, n.Alts)
		for _, a := range n.Alts {
			claims.List(m, a.Vars)
			claimTrees(m, []api.FlatTree{a.Then})
		}
		claimTrees(m, n.Kids)
	}
}

func claimFlat(m claims.Memory, f api.FlatProg) {
	m.Program(f.Prog)
	claimTrees(m, f.Trees)
}

// fresh returns a flat program that shares no memory with one, or within itself.
func fresh(f api.FlatProg) api.FlatProg {
	made := api.FlatProg{Prog: api.RuleProg{Sig: api.TermSig{Cons: slices.Clone(f.Prog.Sig.Cons), Funs: slices.Clone(f.Prog.Sig.Funs)}}}
	for _, r := range f.Prog.Rules {
		made.Prog.Rules = append(made.Prog.Rules, api.RuleRule{Fun: r.Fun, Vars: r.Vars, Pats: copyTerm(con(0, r.Pats...)).Kids, Rhs: copyTerm(r.Rhs)})
	}
	for _, tree := range f.Trees {
		made.Trees = append(made.Trees, again(tree))
	}
	return made
}

// R4: no argument is changed, and results share no memory with arguments, or with each other.
func TestMemory(t *testing.T) {
	t.Parallel()
	a := anything{newMaker(t, 8)}
	for range 300 {
		x := a.random(t)
		x.f = fresh(x.f)
		x.args = copyTerm(con(0, x.args...)).Kids
		for i := range x.f.Prog.Rules {
			x.f.Prog.Rules[i].Rhs = con(3, con(3, con(2)))
		}
		mem := claims.New(t.Fatal)
		claimFlat(mem, x.f)
		mem.Terms(x.args)
		before := showFlat(x.f) + showTerms(x.args)
		for range 2 {
			if e := flat.Check(x.f); e != api.OK {
				t.Fatal(e)
			}
			made, _ := flat.Flat(x.f.Prog)
			claimFlat(mem, made)
			rules, asks, _ := flat.Follow(x.f, x.fun, x.args)
			claims.List(mem, rules)
			claims.List(mem, asks)
			needed, _ := flat.Needs(x.f, x.fun)
			claims.List(mem, needed)
			joined, e := flat.Join(x.f, x.fun)
			if e != api.OK || len(joined.Trees) != len(made.Trees) {
				t.Fatal(e)
			}
			claimFlat(mem, joined)
		}
		if showFlat(x.f)+showTerms(x.args) != before {
			t.Fatal("an argument was changed", before, showFlat(x.f))
		}
	}
}

// R3: nil and empty lists are the same.
func TestEmptyLists(t *testing.T) {
	x := good(t)
	y := good(t)
	for i := range y.f.Trees {
		for _, n := range spots(&y.f.Trees[i]) {
			n.Alts = append([]api.FlatAlt{}, n.Alts...)
			n.Kids = append([]api.FlatTree{}, n.Kids...)
			n.Vars = append([]int{}, n.Vars...)
			for k := range n.Alts {
				n.Alts[k].Vars = append([]int{}, n.Alts[k].Vars...)
			}
		}
	}
	y.f.Prog.Rules[2].Pats = []api.Term{}
	y.args[0].Kids[0].Kids = []api.Term{}
	texts, errors := x.results()
	others, same := y.results()
	if !slices.Equal(texts, others) || !slices.Equal(errors, same) || errors[2] != api.OK {
		t.Error(texts, others, errors, same)
	}
	x.fun, x.args = 1, nil
	y.fun, y.args = 1, []api.Term{}
	texts, errors = x.results()
	others, same = y.results()
	if !slices.Equal(texts, others) || !slices.Equal(errors, same) || errors[2] != api.OK {
		t.Error(texts, others, errors, same)
	}
}
