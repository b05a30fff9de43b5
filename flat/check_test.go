package flat_test

import (
	"math"
	"slices"
	"testing"

	"swingle/api"
	"swingle/flat"
	"swingle/sample"
)

// asked is what all functions are called with.
type asked struct {
	f    api.FlatProg
	fun  int
	args []api.Term
}

// results are texts of what all functions return, and their errors.
func (a asked) results() ([]string, []api.Errno) {
	e0 := flat.Check(a.f)
	made, e1 := flat.Flat(a.f.Prog)
	rules, params, e2 := flat.Follow(a.f, a.fun, a.args)
	needed, e3 := flat.Needs(a.f, a.fun)
	joined, e4 := flat.Join(a.f, a.fun)
	texts := []string{"", showFlat(made), showNumbers(rules) + ";" + showNumbers(params), showNumbers(needed), showFlat(joined)}
	return texts, []api.Errno{e0, e1, e2, e3, e4}
}

func nothing() []string { return []string{"", "", ";", "", ""} }

const goodRules = "f(S(Z), x) = 1; f(x, S(y)) = let z = x in when w =:= z then z; g = h; h = 1;"

// goodTree is a right tree of f.
func goodTree() api.FlatTree {
	return or(
		asks(0, alt(2, nil, fail()), alt(3, ints(2), zero(2, is(0, 1)))),
		asks(1, alt(3, ints(2), or(is(1, 0, 2, -1, -1), fail()))),
	)
}

// good is what all functions can be called with.
func good(t *testing.T) asked {
	t.Helper()
	return asked{with(t, goodRules, goodTree()), 0, terms(con(3, con(2)), v(7))}
}

// checkRefused fails if some of the functions do not return ErrArg, and nothing, or others do not return OK.
func checkRefused(t *testing.T, what string, i int, a asked, bad ...int) {
	t.Helper()
	texts, errors := a.results()
	for n, e := range errors {
		if !slices.Contains(bad, n) {
			if e != api.OK {
				t.Error(what, i, n, e)
			}
		} else if e != api.ErrArg || texts[n] != nothing()[n] {
			t.Error(what, i, n, e, texts[n])
		}
	}
}

// P7.1: trees that are right, though no definitional tree becomes them.
func TestRight(t *testing.T) {
	rules := "f(S(x), y) = 1; f(Z, S(y)) = 2;"
	first, second := is(0, 2, 1), is(1, 2)
	s := func(v int, vars []int, then api.FlatTree) api.FlatTree { return asks(v, alt(3, vars, then)) }
	for i, tree := range []api.FlatTree{
		asks(0, alt(2, nil, s(1, ints(2), second)), alt(3, ints(2), first)),
		or(s(0, ints(2), first), zero(0, s(1, ints(2), second))),
		or(s(1, ints(2), zero(0, second)), s(0, ints(2), first)),
		or(fail(), s(1, ints(2), zero(0, second)), fail(), s(0, ints(2), or(first, fail())), fail()),
		or(asks(0, alt(0, nil, fail()), alt(3, ints(2), or(first, zero(1, fail()))), alt(6, ints(2, 3, 4), zero(4, fail()))), s(1, ints(2), zero(0, second))),
		or(asks(0, alt(3, ints(2), first), alt(5, ints(2, 3), s(2, ints(4), fail()))), asks(0, alt(1, nil, fail()), alt(2, nil, s(1, ints(2), second)))),
	} {
		if e := flat.Check(with(t, rules, tree)); e != api.OK {
			t.Error(i, e, showTree(tree))
		}
	}
	if e := flat.Check(good(t).f); e != api.OK {
		t.Error(e)
	}
}

// P7.1: the examples.
func TestCheckExamples(t *testing.T) {
	s := func(v int, then api.FlatTree) api.FlatAlt { return alt(3, ints(v), then) }
	for i, tree := range []api.FlatTree{
		asks(1, alt(2, nil, is(0, 1)), s(2, is(1, 2, 1))),
		asks(1, alt(2, nil, is(0, 0)), s(2, is(1, 0, 2))),
		asks(0, s(2, is(1, 2, 1))),
	} {
		if e := flat.Check(with(t, sample.Rules, tree)); e != api.ErrArg {
			t.Error(i, e)
		}
	}
	if e := flat.Check(flatOf(t, sample.Rules)); e != api.OK {
		t.Error(e)
	}
}

// badTrees are trees of f that are not right, each with one thing wrong.
func badTrees() []api.FlatTree {
	left := func(then api.FlatTree) api.FlatTree { return asks(0, alt(3, ints(2), zero(2, then))) }
	right := func(then api.FlatTree) api.FlatTree { return asks(1, alt(3, ints(2), then)) }
	first, second := left(is(0, 1)), right(is(1, 0, 2, -1, -1))
	list := []api.FlatTree{
		{}, {Op: 5}, {Op: -1}, {Op: math.MaxInt}, {Op: math.MinInt},
		// Rules: lost, met twice, of others, none.
		fail(), first, second, or(first, fail()), or(fail(), second), or(first, second, second), or(second, first, first), or(first, first, second),
		or(first, second, is(2)), or(first, second, is(4)), or(first, second, is(-1)), or(first, second, is(math.MaxInt)), or(first, second, is(math.MinInt)),
		// Pats that are not the shape.
		or(first, is(1, 0, 1, -1, -1)), or(first, right(zero(0, is(1, 0, 2, -1, -1)))), or(first, right(zero(2, is(1, 0, 2, -1, -1)))), or(asks(0, alt(3, ints(2), is(0, 1))), second), or(zero(0, is(0, 1)), second),
		or(asks(1, alt(3, ints(2), zero(2, is(0, 1)))), second), or(asks(0, alt(3, ints(2), asks(2, alt(3, ints(3), is(0, 1))))), second), or(asks(0, alt(2, nil, zero(1, is(0, 1)))), second), or(asks(0, alt(5, ints(2, 3), zero(2, is(0, 1)))), second),
	}
	// Vars that are not those of the rule.
	for _, vars := range [][]int{nil, {2}, {-1}, {1, 1}, {1, -1}, {0}, {3}, {math.MaxInt}, make([]int, 1<<20)} {
		list = append(list, or(left(is(0, vars...)), second))
	}
	for _, vars := range [][]int{nil, {0, 2}, {0, 2, -1}, {0, 2, -1, -1, -1}, {0, 2, 0, 0}, {0, 2, -1, 2}, {2, 0, -1, -1}, {0, 1, -1, -1}, {-1, 2, -1, -1}, {0, -1, -1, -1}} {
		list = append(list, or(first, right(is(1, vars...))))
	}
	// Variables that are not there: too great, replaced, of another Alt, not given any more.
	for _, n := range []int{-1, 2, 3, math.MaxInt, math.MinInt} {
		list = append(list, or(first, second, zero(n, fail())))
	}
	list = append(list,
		or(first, second, zero(0, zero(0, fail()))), or(first, second, asks(0, alt(3, ints(2), zero(0, fail())))), or(first, second, asks(0, alt(3, ints(2), zero(3, fail())))),
		or(first, second, asks(0, alt(3, ints(2), fail()), alt(4, nil, zero(2, fail())))), or(first, second, asks(0, alt(2, nil, zero(2, fail())), alt(3, ints(2), fail()))),
		or(first, second, asks(0, alt(3, ints(2), asks(2, alt(3, ints(3), zero(2, fail())))))),
	)
	// Alts: none, not increasing, no constructors, other variables.
	for _, alts := range [][]api.FlatAlt{
		nil, {alt(2, nil, fail()), alt(2, nil, fail())}, {alt(4, nil, fail()), alt(2, nil, fail())}, {alt(3, ints(2), fail()), alt(2, nil, fail())}, {alt(7, nil, fail())}, {alt(-1, nil, fail())}, {alt(math.MaxInt, nil, fail())}, {alt(math.MinInt, nil, fail())}, make([]api.FlatAlt, 1<<20),
		{alt(2, ints(2), fail())}, {alt(3, nil, fail())}, {alt(3, ints(1), fail())}, {alt(3, ints(3), fail())}, {alt(3, ints(-1), fail())}, {alt(3, ints(2, 3), fail())}, {alt(5, ints(2), fail())}, {alt(5, ints(2, 2), fail())}, {alt(5, ints(3, 2), fail())}, {alt(5, ints(2, 4), fail())}, {alt(5, ints(2, 3, 4), fail())}, {alt(3, make([]int, 1<<20), fail())},
		{alt(3, ints(2), fail()), alt(5, ints(3, 4), fail())}, {alt(2, nil, api.FlatTree{})}, {alt(2, nil, fail()), alt(4, nil, or())}, {alt(3, ints(2), asks(2, alt(3, ints(2), fail())))}, {alt(3, ints(2), asks(1, alt(3, ints(2), fail())))},
	} {
		list = append(list, or(first, second, asks(0, alts...)))
	}
	// Ors with too few or too many Kids.
	many := slices.Repeat([]api.FlatTree{fail()}, 14)
	list = append(list, or(), or(or(first, second)), or(first, second, or()), or(first, second, or(fail())), or(append(many, first, second, fail())...), or(make([]api.FlatTree, 1<<20)...), or(first, second, or(append(many, many...)...)))
	return list
}

// tooMuch are right trees with something more than they name.
func tooMuch() []api.FlatTree {
	var list []api.FlatTree
	change := func(ops []api.FlatOp, do func(n *api.FlatTree)) {
		top := goodTree()
		for i, n := range spots(&top) {
			if slices.Contains(ops, n.Op) {
				tree := goodTree()
				do(spots(&tree)[i])
				list = append(list, tree)
			}
		}
	}
	one := []api.FlatTree{fail()}
	change([]api.FlatOp{api.FlatOr, api.FlatRule, api.FlatFail}, func(n *api.FlatTree) { n.Var = 1 })
	change([]api.FlatOp{api.FlatOr, api.FlatRule, api.FlatFail}, func(n *api.FlatTree) { n.Var = -1 })
	change([]api.FlatOp{api.FlatOr, api.FlatRule, api.FlatFail}, func(n *api.FlatTree) { n.Alts = zero(0, fail()).Alts })
	change([]api.FlatOp{api.FlatCase, api.FlatRule, api.FlatFail}, func(n *api.FlatTree) { n.Kids = one })
	change([]api.FlatOp{api.FlatCase, api.FlatRule, api.FlatFail}, func(n *api.FlatTree) { n.Kids = []api.FlatTree{fail(), fail()} })
	change([]api.FlatOp{api.FlatCase, api.FlatOr, api.FlatFail}, func(n *api.FlatTree) { n.Rule = 1 })
	change([]api.FlatOp{api.FlatCase, api.FlatOr, api.FlatFail}, func(n *api.FlatTree) { n.Rule = -1 })
	change([]api.FlatOp{api.FlatCase, api.FlatOr, api.FlatFail}, func(n *api.FlatTree) { n.Vars = ints(0) })
	change([]api.FlatOp{api.FlatCase, api.FlatOr, api.FlatRule, api.FlatFail}, func(n *api.FlatTree) { n.Op = 0 })
	return list
}

// P7.1, P7.3 to P7.5, P0.11: flat programs that are not right are refused.
func TestNotRight(t *testing.T) {
	checkRefused(t, "good", 0, good(t))
	for i, tree := range append(badTrees(), tooMuch()...) {
		a := good(t)
		a.f.Trees[0] = tree
		checkRefused(t, "tree", i, a, 0, 2, 3, 4)
		// Another function's tree counts, too.
		a = asked{f: with(t, "g = 1; "+goodRules, is(0)), fun: 0}
		a.f.Trees[1] = tree
		_, errors := a.results()
		if !slices.Equal(errors, []api.Errno{api.ErrArg, api.OK, api.ErrArg, api.ErrArg, api.ErrArg}) {
			t.Error(i, errors)
		}
	}
	for i, change := range []func(a *asked){
		func(a *asked) { a.f.Trees = nil },
		func(a *asked) { a.f.Trees = a.f.Trees[:2] },
		func(a *asked) { a.f.Trees = append(a.f.Trees, fail()) },
		func(a *asked) { a.f.Trees = make([]api.FlatTree, 1<<20) },
		func(a *asked) { a.f.Trees[0], a.f.Trees[1] = a.f.Trees[1], a.f.Trees[0] },
	} {
		a := good(t)
		change(&a)
		checkRefused(t, "trees", i, a, 0, 2, 3, 4)
	}
}

// P7.1 to P7.5, P0.11: programs that are not formed, and what else is not as defined, is refused.
func TestRefused(t *testing.T) {
	for i, change := range []func(p *api.RuleProg){
		func(p *api.RuleProg) { *p = api.RuleProg{} },
		func(p *api.RuleProg) { p.Sig.Cons = nil },
		func(p *api.RuleProg) { p.Sig.Cons[1].Name = "Truth" },
		func(p *api.RuleProg) { p.Sig.Cons[5].Args = 5 },
		func(p *api.RuleProg) { p.Sig.Funs[1].Name = "f" },
		func(p *api.RuleProg) { p.Sig.Funs[0].Args = 1 },
		func(p *api.RuleProg) { p.Sig.Funs = make([]api.TermName, 1<<16) },
		func(p *api.RuleProg) { p.Rules = append(p.Rules, api.RuleRule{}) },
		func(p *api.RuleProg) { p.Rules = make([]api.RuleRule, 1<<20) },
		func(p *api.RuleProg) { p.Rules[0].Pats = terms(con(3, con(2)), v(1)) },
		func(p *api.RuleProg) { p.Rules[0].Rhs = v(1) },
		func(p *api.RuleProg) { p.Rules[0].Vars = 21 },
		func(p *api.RuleProg) { p.Rules[1].Pats = terms(v(0), con(3, v(0))) },
	} {
		a := good(t)
		change(&a.f.Prog)
		checkRefused(t, "program", i, a, 0, 1, 2, 3, 4)
	}
	for i, n := range []int{-1, 3, 4, math.MinInt, math.MaxInt} {
		a := good(t)
		a.fun = n
		checkRefused(t, "function", i, a, 2, 3, 4)
	}
	one := con(2)
	deep := api.Term{Op: api.TermCon, N: 3, Kids: terms(one)}
	deep.Kids[0] = deep
	for i, args := range [][]api.Term{
		nil, terms(one), terms(one, one, one), make([]api.Term, 1<<20), terms(one, node(api.TermFun, 1)), terms(node(api.TermFun, 1), one), terms(one, con(3, node(api.TermOr, 0, one, one))),
		terms(one, v(20)), terms(one, v(-1)), terms(num(1000001), one), terms(one, api.Term{}), terms(con(7), one), terms(one, con(3)), terms(one, con(3, one, one)),
		terms(one, tower(12, 3, one)), terms(deep, one), terms(one, node(api.TermPart, 0, one, one)), terms(one, node(api.TermPart, 1)), terms(one, node(api.TermBot, 0)), terms(one, node(api.TermLet, 0, one, one)),
	} {
		a := good(t)
		a.args = args
		checkRefused(t, "arguments", i, a, 2)
	}
}

// nested is a case in a case, so many, of the variable that is last.
func nested(n, v int) api.FlatTree {
	if n == 0 {
		return fail()
	}
	return asks(v, alt(3, ints(v+1), nested(n-1, v+1)))
}

// P7.1: a tree can have 100 nodes, and 60 variables.
func TestLimits(t *testing.T) {
	grove := func(last api.FlatTree) api.FlatTree { // 98 nodes with a last one
		kids := []api.FlatTree{is(0, 0), last}
		for range 5 {
			kids = append(kids, or(slices.Repeat([]api.FlatTree{fail()}, 16)...))
		}
		return or(append(kids, or(slices.Repeat([]api.FlatTree{fail()}, 9)...))...)
	}
	q := func(n int, last api.FlatAlt) api.FlatTree { // n constructors with 4 arguments, and a last one
		tree := asks(4*n, last)
		for i := n - 1; i >= 0; i-- {
			tree = asks(4*i, alt(3, ints(4*i+4, 4*i+5, 4*i+6, 4*i+7), tree))
		}
		return tree
	}
	one := progOf(t, "f(x) = 1;")
	four := sample.Wide(sample.Rule(0, v(0), v(0), v(0), v(0)))
	four.Sig.Funs = four.Sig.Funs[:1]
	all := is(0, 0, 1, 2, 3)
	for i, x := range []struct {
		p    api.RuleProg
		tree api.FlatTree
		want api.Errno
	}{
		{one, grove(fail()), api.OK},
		{one, grove(zero(0, fail())), api.OK},
		{one, grove(zero(0, zero(0, fail()))), api.ErrArg},
		{one, grove(or(fail(), fail())), api.OK},
		{one, grove(asks(0, alt(2, nil, fail()), alt(4, nil, fail()))), api.OK},
		{one, grove(or(fail(), fail(), fail())), api.ErrArg},
		{one, grove(asks(0, alt(1, nil, fail()), alt(2, nil, fail()), alt(4, nil, fail()))), api.ErrArg},
		{one, or(is(0, 0), nested(59, 0)), api.OK},
		{one, or(is(0, 0), nested(60, 0)), api.ErrArg},
		{four, or(all, q(14, alt(2, nil, fail()))), api.OK},
		{four, or(all, q(14, alt(4, ints(60), fail()))), api.ErrArg},
		{four, or(all, q(14, alt(3, ints(60, 61, 62, 63), fail()))), api.ErrArg},
		{four, or(all, q(13, alt(3, ints(56, 57, 58, 59), fail()))), api.OK},
		{four, or(all, q(14, alt(2, nil, zero(57, zero(58, zero(59, fail())))))), api.OK},
		{four, or(all, q(14, alt(2, nil, zero(57, zero(58, zero(60, fail())))))), api.ErrArg},
	} {
		a := asked{api.FlatProg{Prog: x.p, Trees: []api.FlatTree{x.tree}}, 0, nil}
		for range x.p.Sig.Funs[0].Args {
			a.args = append(a.args, tower(3, 3, con(2)))
		}
		if x.p.Sig.Cons[3].Args == 4 {
			a.args = terms(con(2), con(2), con(2), con(2))
		}
		if x.want == api.OK {
			checkRefused(t, "limits", i, a)
		} else {
			checkRefused(t, "limits", i, a, 0, 2, 3, 4)
		}
	}
}

// P0.11: trees that lead back to themselves end.
func TestEndless(t *testing.T) {
	loop := or(is(0, 0), fail())
	loop.Kids[1] = loop
	both := or(fail(), fail())
	both.Kids[0], both.Kids[1] = both, both
	deep := zero(0, fail())
	deep.Alts[0].Then = deep
	grows := asks(0, alt(3, ints(1), fail()))
	grows.Alts[0].Then = grows
	wide := or(slices.Repeat([]api.FlatTree{fail()}, 16)...)
	for i := range wide.Kids {
		wide.Kids[i] = wide
	}
	for i, tree := range []api.FlatTree{loop, both, deep, grows, wide, or(is(0, 0), both)} {
		a := asked{with(t, "f(x) = 1;", tree), 0, terms(con(2))}
		checkRefused(t, "endless", i, a, 0, 2, 3, 4)
	}
}
