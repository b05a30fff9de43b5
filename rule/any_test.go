package rule_test

import (
	"math"
	"slices"
	"strconv"
	"testing"

	"swingle/api"
	"swingle/claims"
	"swingle/rule"
	"swingle/sample"
)

// asked is what all functions are called with.
type asked struct {
	p         api.RuleProg
	fun, rule int
	args      []api.Term
	groups    [][]int
}

// results are texts of what all functions return, and their errors.
func (a asked) results() ([]string, []api.Errno) {
	e0 := rule.Check(a.p)
	rules, e1 := rule.Rules(a.p, a.fun)
	free, e2 := rule.Free(a.p, a.rule)
	top, e3 := rule.Tree(a.p, a.fun)
	sequential, overlaps, e4 := rule.Kinds(a.p, a.fun)
	matching, e5 := rule.Matches(a.p, a.fun, a.args)
	binds, e6 := rule.Apply(a.p, a.rule, a.args)
	shape, e7 := rule.Missing(a.p, a.fun, a.groups)
	s := a.p.Sig
	return []string{"", showNumbers(rules), showNumbers(free), showTree(s, top), strconv.FormatBool(sequential || overlaps), showNumbers(matching), showBinds(s, binds), showArgs(s, shape)},
		[]api.Errno{e0, e1, e2, e3, e4, e5, e6, e7}
}

func nothing() []string { return []string{"", "", "", "none", "false", "", "", ""} }

// good is what all functions can be called with.
func good(t *testing.T) asked {
	t.Helper()
	p := progOf(t, "f(S(Z), x) = 1; f(x, S(y)) = let z = x in when w =:= z then z; g = h; h = 1;")
	return asked{p, 0, 1, valuesOf(t, p, "S(1)", "S(f(1))"), groups()}
}

func endless(op api.TermOp, n, wide int) api.Term {
	t := api.Term{Op: op, N: n, Kids: make([]api.Term, wide)}
	for i := range t.Kids {
		t.Kids[i] = t
	}
	return t
}

// badRules are rules that are not formed for the good program, each with one thing wrong.
func badRules() []api.RuleRule {
	of := func(fun, vars int, rhs api.Term, pats ...api.Term) api.RuleRule {
		return api.RuleRule{Fun: fun, Vars: vars, Rhs: rhs, Pats: pats}
	}
	when := func(a, b api.Term) api.Term { return node(api.TermWhen, 0, a, b) }
	return []api.RuleRule{
		{}, of(-1, 0, num(1)), of(3, 0, num(1)), of(math.MaxInt, 0, num(1)), of(math.MinInt, 0, num(1)),
		of(0, 2, num(1)), of(0, 2, num(1), v(0)), of(0, 3, num(1), v(0), v(1), v(2)), of(1, 1, num(1), v(0)),
		of(1, -1, num(1)), of(1, 21, num(1)), of(1, math.MaxInt, num(1)), of(1, math.MinInt, num(1)),
		of(0, 1, num(1), v(0), v(1)), of(0, 19, num(1), v(0), v(19)), of(0, 20, num(1), v(0), v(20)), of(0, 2, num(1), v(0), v(-1)),
		of(0, 2, num(1), v(0), v(0)), of(0, 2, num(1), con(5, v(1), v(1)), v(0)), of(0, 2, num(1), con(5, v(1), v(0)), v(0)),
		of(0, 2, num(1), num(1), v(0)), of(0, 2, num(1), v(0), con(3, num(1))), of(0, 2, num(1), node(api.TermPart, 0), v(0)), of(0, 2, num(1), v(0), node(api.TermFun, 1)), of(0, 2, num(1), v(0), or(v(1), con(2))),
		of(0, 2, num(1), con(7), v(0)), of(0, 2, num(1), con(-1), v(0)), of(0, 2, num(1), con(3), v(0)), of(0, 2, num(1), con(2, v(1)), v(0)), of(0, 2, num(1), api.Term{}, v(0)),
		of(0, 2, num(1), tower(12, 3, con(2)), v(0)), of(0, 2, num(1), endless(api.TermCon, 3, 1), v(0)), of(0, 2, num(1), endless(api.TermCon, 6, 3), v(0)),
		of(1, 0, v(0)), of(1, 3, v(3)), of(1, 20, v(20)), of(1, 3, v(-1)), of(1, 3, or(v(2), con(3, v(3)))),
		of(1, 0, api.Term{}), of(1, 0, num(1000001)), of(1, 0, node(api.TermBot, 0)), of(1, 0, con(3)), of(1, 0, node(api.TermFun, 0, num(1))), of(1, 0, endless(api.TermOr, 0, 2)), of(1, 0, endless(api.TermLet, 0, 2)),
		of(1, 0, let(0, num(1), num(1))), of(1, 2, let(2, num(1), num(1))), of(1, 2, let(-1, num(1), num(1))),
		of(0, 2, let(0, num(1), num(1)), v(0), v(1)), of(0, 2, let(1, num(1), num(1)), v(0), con(3, v(1))),
		of(1, 2, let(0, num(1), let(0, num(1), num(1)))), of(1, 2, or(let(0, num(1), num(1)), let(0, num(1), num(1)))), of(1, 2, let(0, let(0, num(1), num(1)), num(1))),
		of(1, 2, let(0, v(0), num(1))), of(1, 2, let(0, con(3, v(0)), v(0))), of(1, 2, or(v(0), let(0, num(1), v(0)))), of(1, 2, when(let(0, num(1), num(1)), v(0))), of(1, 2, let(1, v(0), let(0, num(1), v(1)))),
	}
}

// badProgs are programs that are not formed.
func badProgs(t *testing.T) []api.RuleProg {
	t.Helper()
	list := []api.RuleProg{{}, {Rules: good(t).p.Rules}}
	change := func(do func(p *api.RuleProg)) {
		p := good(t).p
		do(&p)
		list = append(list, p)
	}
	change(func(p *api.RuleProg) { p.Sig.Cons = nil })
	change(func(p *api.RuleProg) { p.Sig.Cons[1].Name = "Truth" })
	change(func(p *api.RuleProg) { p.Sig.Cons[0].Args = 1 })
	change(func(p *api.RuleProg) { p.Sig.Cons[2].Name = "Nil" })
	change(func(p *api.RuleProg) { p.Sig.Cons[4].Args = 5 })
	change(func(p *api.RuleProg) { p.Sig.Funs[1].Name = "f" })
	change(func(p *api.RuleProg) { p.Sig.Funs[1].Name = "" })
	change(func(p *api.RuleProg) { p.Sig.Funs[2].Name = "abcdefghi" })
	change(func(p *api.RuleProg) { p.Sig.Funs[2].Args = -1 })
	change(func(p *api.RuleProg) { p.Sig.Funs[0].Args = 1 })
	change(func(p *api.RuleProg) { p.Sig.Funs = make([]api.TermName, 1<<16) })
	change(func(p *api.RuleProg) { p.Rules = slices.Repeat(p.Rules[2:3], 17) })
	change(func(p *api.RuleProg) { p.Rules = make([]api.RuleRule, 1<<20) })
	for _, r := range badRules() {
		change(func(p *api.RuleProg) { p.Rules = append(p.Rules, r) })
		change(func(p *api.RuleProg) { p.Rules = append([]api.RuleRule{r}, p.Rules...) })
	}
	return list
}

// badGroups are groups that are not as defined, for 7 constructors.
func badGroups() [][][]int {
	return [][][]int{
		nil, {}, {{}}, {{0, 1, 2, 3, 4, 5}}, {{0, 1, 2, 3, 4, 5, 6, 7}}, {{0, 1, 2, 3, 4, 5, 7}}, {{0, 1, 2, 3, 4, 5, -1}},
		{{0, 1, 2, 3, 4, 5, 6, 6}}, {{0, 1, 2, 3}, {3, 4, 5, 6}}, {{0, 1, 2, 3, 3}, {5, 6}}, {{0, 1, 2, 3}, {4, 5, 6}, {0}},
		{{0, 1, 2, 3, 4, 5, 6}, {}}, {{}, {0, 1, 2, 3, 4, 5, 6}}, {{0, 1, 2, 3}, nil, {4, 5, 6}},
		{{0, 1}, {2, 3}, {4, 5}}, {{0, 1}, {2, 3}, {4, 5}, {math.MaxInt}}, {{0, 1}, {2, 3}, {4, 5}, {6, math.MinInt}},
		make([][]int, 1<<20), {make([]int, 1<<20)}, {{0, 1, 2, 3, 4, 5, 6}, make([]int, 1<<20)},
	}
}

// P5.1 to P5.4, P0.11: what is not as defined is refused.
func TestRefused(t *testing.T) {
	check := func(what string, i int, a asked, bad ...int) {
		t.Helper()
		texts, errors := a.results()
		for n, e := range errors {
			if !slices.Contains(bad, n) {
				if e != api.OK {
					t.Error(what, i, n, e)
				}
			} else if e != api.ErrArg || texts[n] != nothing()[n] {
				t.Error(what, i, n, e, texts[n])
			}
		}
	}
	check("good", 0, good(t))
	for i, p := range badProgs(t) {
		a := good(t)
		a.p = p
		check("program", i, a, 0, 1, 2, 3, 4, 5, 6, 7)
	}
	for i, n := range []int{-1, 3, 4, math.MinInt, math.MaxInt} {
		a := good(t)
		a.fun = n
		check("function", i, a, 1, 3, 4, 5, 7)
		a = good(t)
		a.rule = n + n/3
		check("rule", i, a, 2, 6)
	}
	one := con(2)
	for i, args := range [][]api.Term{
		nil, terms(one), terms(one, one, one), make([]api.Term, 1<<20), terms(one, node(api.TermFun, 1)), terms(node(api.TermFun, 1), one), terms(one, con(3, or(one, one))),
		terms(one, v(20)), terms(one, v(-1)), terms(num(1000001), one), terms(one, api.Term{}), terms(con(7), one), terms(one, con(3)), terms(one, con(3, one, one)),
		terms(one, tower(12, 3, one)), terms(endless(api.TermCon, 6, 3), one), terms(one, endless(api.TermPart, 0, 1)), terms(one, node(api.TermPart, 0, one, one)), terms(one, node(api.TermPart, 1)), terms(one, node(api.TermBot, 0)),
		terms(one, let(0, one, one)), terms(one, node(api.TermAdd, 0, num(1), num(1))),
	} {
		a := good(t)
		a.args = args
		check("arguments", i, a, 5, 6)
	}
	for i, groups := range badGroups() {
		a := good(t)
		a.groups = groups
		check("groups", i, a, 7)
	}
}

// ErrArg comes before the other errors.
func TestWhichError(t *testing.T) {
	long := sample.Wide(sample.Rule(0, sample.Thicket(9), sample.Thicket(9), sample.Thicket(9), sample.Thicket(9)))
	if _, e := rule.Tree(long, 0); e != api.ErrLong {
		t.Error(e)
	}
	long.Rules = append(long.Rules, api.RuleRule{})
	if _, e := rule.Tree(long, 0); e != api.ErrArg {
		t.Error(e)
	}
	if _, _, e := rule.Kinds(long, 0); e != api.ErrArg {
		t.Error(e)
	}
	ss := func() api.Term { return tower(11, 10, v(0)) }
	p := manyLooks(ss(), ss(), con(11, tower(10, 10, v(0)), tower(10, 10, v(0))))
	right := [][]int{{0}, {1}, {2, 3}, {4, 5, 6, 7, 8, 9}, {10}, {11}}
	if _, e := rule.Missing(p, 0, right); e != api.ErrLong {
		t.Error(e)
	}
	if _, e := rule.Missing(p, 0, append(right, nil)); e != api.ErrArg {
		t.Error(e)
	}
	add := progOf(t, sample.Rules)
	if _, e := rule.Apply(add, 0, terms(con(3, con(2)), v(20))); e != api.ErrArg {
		t.Error(e)
	}
	if _, e := rule.Apply(add, 0, terms(con(3, con(2)), v(19))); e != api.ErrNone {
		t.Error(e)
	}
}

// P5.1: what is formed at the limits.
func TestFormed(t *testing.T) {
	p := sample.Wide()
	for range 16 {
		p.Rules = append(p.Rules, api.RuleRule{Fun: 1, Pats: terms(tower(11, 4, v(19))), Rhs: let(0, v(18), or(v(0), v(19))), Vars: 20})
	}
	if e := rule.Check(p); e != api.OK {
		t.Error(e)
	}
	p.Rules = append(p.Rules, p.Rules[0])
	if e := rule.Check(p); e != api.ErrArg {
		t.Error(e)
	}
	if e := rule.Check(api.RuleProg{Sig: api.TermSig{Cons: p.Sig.Cons[:2]}}); e != api.OK {
		t.Error(e)
	}
}

// anything makes values of any kind, most of which are not formed.
type anything struct{ *maker }

func (a anything) number() int {
	return []int{0, 0, 0, 1, 1, 2, 3, 4, 5, 6, 7, 8, 20, -1, math.MaxInt, math.MinInt}[a.Intn(16)]
}

func (a anything) term(deep int) api.Term {
	made := node(api.TermOp(a.Intn(18)), a.number())
	for range a.Intn(4) * min(deep, 1) {
		made.Kids = append(made.Kids, a.term(deep-1))
	}
	return made
}

func (a anything) terms() []api.Term {
	return many(a.Intn(4), func() api.Term { return a.term(2) })
}

// change changes something somewhere.
func (a anything) change(x *asked) {
	switch a.Intn(9) {
	case 0:
		x.fun = a.number()
	case 1:
		x.rule = a.number()
	case 2:
		x.args = a.terms()
	case 3:
		x.groups = append(x.groups, []int{a.number()})
	case 4:
		x.groups = x.groups[:a.Intn(len(x.groups)+1)]
	case 5:
		x.p.Rules = append(x.p.Rules, api.RuleRule{Fun: a.number(), Pats: a.terms(), Rhs: a.term(2), Vars: a.number()})
	case 6:
		x.p.Rules = x.p.Rules[:a.Intn(len(x.p.Rules)+1)]
	case 7:
		x.p.Sig.Funs = x.p.Sig.Funs[:a.Intn(len(x.p.Sig.Funs)+1)]
	case 8:
		if len(x.args) > 0 {
			x.args[a.Intn(len(x.args))] = a.term(1)
		}
	}
}

// random is what all functions can be called with, if there are rules.
func (a anything) random() asked {
	a.again()
	fun := a.Intn(len(a.Funs))
	p := a.prog(fun)
	return asked{p, fun, a.Intn(len(p.Rules) + 1), a.maker.args(fun, false), a.someGroups()}
}

// P0.11, R2, R8: all functions end, whatever they are given, and return the
// same again, and nothing with an error.
func TestAnything(t *testing.T) {
	t.Parallel()
	a := anything{newMaker(t, 6)}
	met := map[api.Errno]int{}
	for range 4000 {
		x := a.random()
		for range a.Intn(4) {
			a.change(&x)
		}
		texts, errors := x.results()
		again, same := x.results()
		if !slices.Equal(texts, again) || !slices.Equal(errors, same) {
			t.Fatal("two calls return different results", texts, again, errors, same)
		}
		for i, e := range errors {
			met[e]++
			if e != api.OK && texts[i] != nothing()[i] {
				t.Fatal("more than an error", i, texts, errors)
			}
			if errors[0] == api.ErrArg && e != api.ErrArg || e != api.OK && e != api.ErrArg && e != api.ErrNone {
				t.Fatal(i, errors)
			}
		}
	}
	t.Log(met)
	if met[api.OK] < 5000 || met[api.ErrArg] < 5000 || met[api.ErrNone] < 1000 {
		t.Error("too few of some kind", met)
	}
}

func claimTrees(m claims.Memory, list []api.RuleNode) {
	claims.List(m, list)
	for _, n := range list {
		claims.List(m, n.Rules)
		claims.List(m, n.Path)
		claims.List(m, n.Cons)
		claimTrees(m, n.Kids)
	}
}

func freshTerms(list []api.Term) []api.Term {
	var made []api.Term
	for _, x := range list {
		made = append(made, node(x.Op, x.N, freshTerms(x.Kids)...))
	}
	return slices.Clip(made)
}

func (a asked) text() string {
	text := ""
	for _, r := range a.p.Rules {
		text += showNumbers([]int{r.Fun, r.Vars}) + showTerms(a.p.Sig, r.Pats) + showTerm(a.p.Sig, r.Rhs) + "; "
	}
	for _, group := range a.groups {
		text += showNumbers(group) + ", "
	}
	return text + showArgs(a.p.Sig, a.args)
}

// R4: no argument is changed, and results share no memory with arguments, or with each other.
func TestMemory(t *testing.T) {
	t.Parallel()
	a := anything{newMaker(t, 7)}
	for range 500 {
		x := a.random()
		mem := claims.New(t.Fatal)
		x.args = freshTerms(x.args)
		mem.Terms(x.args)
		for n := range x.p.Rules {
			x.p.Rules[n].Pats = freshTerms(x.p.Rules[n].Pats)
			mem.Terms(x.p.Rules[n].Pats)
		}
		for _, group := range x.groups {
			claims.List(mem, group)
		}
		before := x.text()
		for range 2 {
			rules, _ := rule.Rules(x.p, x.fun)
			claims.List(mem, rules)
			free, _ := rule.Free(x.p, x.rule)
			claims.List(mem, free)
			top, _ := rule.Tree(x.p, x.fun)
			claimTrees(mem, []api.RuleNode{top})
			matching, _ := rule.Matches(x.p, x.fun, x.args)
			claims.List(mem, matching)
			shape, _ := rule.Missing(x.p, x.fun, x.groups)
			mem.Terms(shape)
			for n := range x.p.Rules {
				binds, _ := rule.Apply(x.p, n, x.args)
				claims.List(mem, binds)
				for _, b := range binds {
					mem.Terms(b.Term.Kids)
				}
			}
		}
		if x.text() != before {
			t.Fatal("an argument was changed", before, x.text())
		}
	}
}

// R3: nil and empty lists are the same.
func TestEmptyLists(t *testing.T) {
	x := good(t)
	x.fun, x.rule, x.args = 1, 2, nil
	y := good(t)
	y.fun, y.rule, y.args = 1, 2, []api.Term{}
	y.p.Rules[2].Pats = []api.Term{}
	y.p.Rules[0].Pats[0].Kids[0].Kids = []api.Term{}
	texts, errors := x.results()
	others, same := y.results()
	if !slices.Equal(texts, others) || !slices.Equal(errors, same) || errors[6] != api.OK {
		t.Error(texts, others, errors, same)
	}
}
