package logic_test

import (
	"math"
	"slices"
	"testing"

	"swingle/api"
	"swingle/logic"
)

// asked is what the functions of proofs are called with.
type asked struct {
	p     api.RuleProg
	env   []api.Term
	e     api.Term
	f     api.LogicProof
	value api.Term
	binds []api.TermBind
}

// results are texts of what Accept, Lower, Put and Calls return, and their errors.
func (a asked) results() ([]string, []api.Errno) {
	value, e0 := logic.Accept(a.p, a.env, a.e, a.f)
	less, e1 := logic.Lower(a.p, a.env, a.e, a.f, a.value)
	put, e2 := logic.Put(a.p, a.f, a.binds)
	rules, nodes, e3 := logic.Calls(a.p, a.f)
	return []string{showTerm(value), showProof(less), showProof(put), showNumbers(append(rules, nodes))}, []api.Errno{e0, e1, e2, e3}
}

func nothing() []string {
	return []string{showTerm(api.Term{}), showProof(api.LogicProof{}), showProof(api.LogicProof{}), "0"}
}

// good is what all functions can be called with.
func good(t *testing.T) asked {
	t.Helper()
	p := prog(t)
	return asked{p, terms(v(7)), goal(t, p, "add(S(Z), x)"), addOne(), succ(bottom()), binds(bind(7, nat(2)))}
}

// checkRefused fails if not just some of the functions return ErrArg, or something with it.
func checkRefused(t *testing.T, what string, i int, a asked, bad ...int) {
	t.Helper()
	texts, errors := a.results()
	for n, e := range errors {
		want := api.OK
		if slices.Contains(bad, n) {
			want = api.ErrArg
		}
		if e != want || (e != api.OK) != (texts[n] == nothing()[n]) {
			t.Error(what, i, n, e, texts[n], "want", want)
		}
	}
}

// badProgs are programs that are not formed.
func badProgs(t *testing.T) []api.RuleProg {
	t.Helper()
	list := []api.RuleProg{{}, {Rules: prog(t).Rules}}
	for _, s := range badSigs(t) {
		list = append(list, api.RuleProg{Sig: s, Rules: prog(t).Rules})
	}
	change := func(do func(p *api.RuleProg)) {
		p := prog(t)
		do(&p)
		list = append(list, p)
	}
	change(func(p *api.RuleProg) { p.Rules = append(p.Rules, p.Rules[:3]...) })
	change(func(p *api.RuleProg) { p.Rules = make([]api.RuleRule, 1<<20) })
	change(func(p *api.RuleProg) { p.Rules[13].Fun = 8 })
	change(func(p *api.RuleProg) { p.Rules[13].Vars = 21 })
	change(func(p *api.RuleProg) { p.Rules[0].Vars = 0 })
	change(func(p *api.RuleProg) { p.Rules[1].Pats[1] = v(0) })
	change(func(p *api.RuleProg) { p.Rules[2].Pats = p.Rules[2].Pats[:1] })
	change(func(p *api.RuleProg) { p.Rules[5].Rhs = bottom() })
	change(func(p *api.RuleProg) { p.Rules[5].Rhs = v(0) })
	change(func(p *api.RuleProg) { p.Rules[7].Pats[0] = num(1) })
	change(func(p *api.RuleProg) { p.Rules[10].Rhs = node(api.TermLet, 0, num(1), num(2)) })
	change(func(p *api.RuleProg) { p.Rules[5].Rhs = endless(api.TermOr, 0, 2) })
	return list
}

// endlessProof is a proof that leads back to itself.
func endlessProof(wide int) api.LogicProof {
	f := api.LogicProof{Rule: api.LogicBoth, Value: truth(true), Kids: make([]api.LogicProof, wide)}
	for i := range f.Kids {
		f.Kids[i] = f
	}
	return f
}

// wide is a node with so many Kids.
func wide(kids int) api.LogicProof {
	return step(api.LogicCon, zero(), slices.Repeat(proofs(isCon(2)), kids)...)
}

// deep is a proof with so much depth.
func deep(levels int, inside api.LogicProof) api.LogicProof {
	for range levels {
		inside = through(api.LogicLeft, inside)
	}
	return inside
}

// badProofs are proofs that are not as defined, each with one thing wrong.
func badProofs() []api.LogicProof {
	list := proofs(
		api.LogicProof{}, wide(500), deep(150, none()), deep(75, isCon(5, none(), deep(75, none()))), isCon(5, wide(249), wide(249)),
		endlessProof(1), endlessProof(2), step(api.LogicBoth, truth(true), make([]api.LogicProof, 1<<20)...),
		api.LogicProof{Rule: api.LogicFun, Value: zero(), Num: 5, Binds: slices.Repeat(terms(zero()), 21)},
		api.LogicProof{Rule: api.LogicFun, Value: zero(), Num: 5, Binds: make([]api.Term, 1<<20)},
	)
	for r := api.LogicRule(-1); r <= api.LogicApply+1; r++ {
		if r != api.LogicFun {
			list = append(list, withNum(step(r, zero()), 1), withNum(step(r, zero()), -1), withNum(step(r, zero()), math.MinInt), withBinds(step(r, zero()), zero()))
		}
	}
	for _, x := range notVals() {
		list = append(list, is(x), by(0, terms(x), none()), by(0, terms(zero(), x), none()))
	}
	return list
}

// P6.2 to P6.6: all functions refuse what is not as defined.
func TestRefused(t *testing.T) {
	checkRefused(t, "good", 0, good(t))
	for i, p := range badProgs(t) {
		a := good(t)
		a.p = p
		checkRefused(t, "program", i, a, 0, 1, 2, 3)
		a.f, a.value = none(), bottom()
		checkRefused(t, "program", i, a, 0, 1, 2, 3)
	}
	for i, f := range badProofs() {
		a := good(t)
		a.f = f
		checkRefused(t, "proof", i, a, 0, 1, 2, 3)
		a.f = isCon(5, none(), isCon(3, f))
		a.f.Value, a.f.Kids[1].Value = zero(), zero()
		checkRefused(t, "proof inside", i, a, 0, 1, 2, 3)
	}
	checkRefused(t, "environment", -1, asked{p: prog(t), env: terms(v(7), bottom(), v(8)), e: good(t).e, f: addOne(), value: bottom()})
	for i, x := range notVals() {
		a := good(t)
		a.env = terms(v(7), x)
		checkRefused(t, "environment", i, a, 0, 1)
		a.f, a.env, a.value = none(), terms(x), bottom()
		checkRefused(t, "environment", i, a, 0, 1)
		a = good(t)
		a.value = x
		checkRefused(t, "value", i, a, 1)
	}
	a := good(t)
	a.env = append(a.env, slices.Repeat(terms(zero()), 19)...)
	checkRefused(t, "environment", 20, a)
	a.env = append(a.env, zero())
	checkRefused(t, "environment", 21, a, 0, 1)
	a.env = make([]api.Term, 1<<20)
	checkRefused(t, "environment", 1<<20, a, 0, 1)
}

// P6.2, P6.3: expressions that are not formed, or have a variable that the environment has not.
func TestRefusedExpressions(t *testing.T) {
	let := func(n int, a, b api.Term) api.Term { return node(api.TermLet, n, a, b) }
	for i, e := range []api.Term{
		{}, bottom(), succ(bottom()), con(6), con(3), fun(0, zero()), fun(8), part(2), num(1000001), v(-1), v(20), node(api.TermOr, 1, zero(), zero()), node(api.TermApply, 0, part(0)), tower(12, zero()), bushy(41), endless(api.TermOr, 0, 2), endless(api.TermCon, 3, 1),
		v(1), v(19), con(5, v(0), v(1)), let(1, v(1), v(0)), let(1, v(0), v(2)), con(5, let(1, v(0), v(1)), v(1)), let(0, v(1), v(0)), fun(0, v(0), fun(0, v(0), v(3))),
	} {
		a := good(t)
		a.e, a.f, a.value = e, none(), bottom()
		checkRefused(t, "expression", i, a, 0, 1)
	}
	for i, e := range []api.Term{v(0), num(1), tower(11, zero()), bushy(40), let(1, v(0), v(1)), let(19, v(0), let(0, v(19), con(5, v(0), v(19))))} {
		a := good(t)
		a.e, a.f, a.value = e, none(), bottom()
		checkRefused(t, "expression", i, a)
	}
	a := good(t)
	a.e, a.f, a.value, a.env = v(0), none(), bottom(), nil
	checkRefused(t, "environment", 0, a, 0, 1)
}

// P6.2 to P6.6: proofs at the limits.
func TestLimits(t *testing.T) {
	p := prog(t)
	full := api.LogicProof{Rule: api.LogicFun, Value: bushy(80), Num: math.MaxInt, Binds: slices.Repeat(terms(tower(29, v(199))), 20)}
	for i, f := range proofs(wide(499), deep(149, none()), deep(75, isCon(5, none(), deep(73, none()))), isCon(5, wide(249), wide(248)), full) {
		a := good(t)
		a.f = f
		texts, errors := a.results()
		if !slices.Equal(errors, []api.Errno{api.ErrRule, api.ErrRule, api.OK, api.OK}) {
			t.Error(i, errors)
		}
		if texts[2] != showProof(f) {
			t.Error(i, texts[2])
		}
	}
	checkCalls(t, p, wide(499), "", 500)
	checkCalls(t, p, full, showNumbers([]int{math.MaxInt}), 1)
}

// climb has a function that makes a call for each S, with so many choices in each, and a proof of its call.
func climb(calls, choices int) (string, api.LogicProof) {
	inside := "up(x)"
	for range choices {
		inside = "(" + inside + " ? 0)"
	}
	f := by(0, nil, is(zero()), isNum(7))
	for n := range calls {
		f = by(1, terms(nat(n)), is(nat(n+1)), deep(choices, f))
	}
	return "data Nat = Z | S(Nat); data List = Nil | Cons(Nat, List); up(Z) = 7; up(S(x)) = " + inside + ";", f
}

// orZero is a choice of an expression and 0, with a proof of its first Kid.
func orZero(e api.Term, f api.LogicProof) (api.Term, api.LogicProof) {
	return node(api.TermOr, 0, e, num(0)), through(api.LogicLeft, f)
}

// P6.2: proofs at the limits are accepted, those behind them refused.
func TestAcceptLimits(t *testing.T) {
	source, f := climb(16, 8)
	p := progOf(t, source)
	e := fun(0, v(0))
	for depthOf(f) < 150 {
		e, f = orZero(e, f)
	}
	checkAccept(t, p, terms(nat(16)), e, f, api.OK)
	e, f = orZero(e, f)
	checkAccept(t, p, terms(nat(16)), e, f, api.ErrArg)
	_, call := climb(12, 8)
	first, proof := orZero(fun(0, v(0)), call)
	e, f = con(5, first, con(5, num(1), con(4))), isCon(5, proof, isCon(5, isNum(1), isCon(4)))
	for range 3 {
		e, f = con(5, fun(0, v(0)), e), isCon(5, call, f)
	}
	if n := len(steps(&f)); n != 500 {
		t.Fatal(n)
	}
	checkAccept(t, p, terms(nat(12)), e, f, api.OK)
	e, f = orZero(e, f)
	checkAccept(t, p, terms(nat(12)), e, f, api.ErrArg)
}
