package logic_test

import (
	"testing"

	"swingle/api"
	"swingle/logic"
)

func checkLower(t *testing.T, p api.RuleProg, env []api.Term, e api.Term, f api.LogicProof, value api.Term, want api.LogicProof) {
	t.Helper()
	got, why := logic.Lower(p, env, e, f, value)
	if why != api.OK || showProof(got) != showProof(want) {
		t.Error(showProof(f), "to", showTerm(value), "is", why, showProof(got), "want", showProof(want))
	}
	checkAccept(t, p, env, e, got, api.OK)
}

// P6.3: where there is just one way, it is this one.
func TestLower(t *testing.T) {
	p := prog(t)
	add, env := goal(t, p, "add(S(Z), x)"), terms(v(7))
	less := withValue(withKid(addOne(), 2, isCon(3, none())), succ(bottom()))
	checkLower(t, p, env, add, addOne(), succ(bottom()), less)
	checkLower(t, p, env, add, addOne(), succ(v(7)), addOne())
	checkLower(t, p, env, add, addOne(), bottom(), none())
	pair, env := con(5, v(0), v(1)), terms(nat(1), v(3))
	whole := isCon(5, is(nat(1)), is(v(3)))
	checkLower(t, p, env, pair, whole, con(5, succ(bottom()), v(3)), isCon(5, is(succ(bottom())), is(v(3))))
	checkLower(t, p, env, pair, whole, con(5, bottom(), v(3)), isCon(5, none(), is(v(3))))
	checkLower(t, p, env, part(0, v(0)), isPart(0, is(nat(1))), part(0, bottom()), isPart(0, none()))
	checkLower(t, p, env, num(4), isNum(4), num(4), isNum(4))
	checkLower(t, p, env, num(4), isNum(4), bottom(), none())
	for r, e := range map[api.LogicRule]api.Term{api.LogicLeft: node(api.TermOr, 0, v(0), num(1)), api.LogicRight: node(api.TermOr, 0, num(1), v(0))} {
		checkLower(t, p, env, e, through(r, is(nat(1))), succ(bottom()), through(r, is(succ(bottom()))))
		checkLower(t, p, env, e, through(r, is(nat(1))), bottom(), none())
	}
	let := node(api.TermLet, 5, v(0), v(5))
	checkLower(t, p, env, let, through(api.LogicLet, is(nat(1)), is(nat(1))), succ(bottom()), through(api.LogicLet, is(nat(1)), is(succ(bottom()))))
	when := node(api.TermWhen, 0, truth(true), v(0))
	checkLower(t, p, env, when, through(api.LogicWhen, isCon(1), is(nat(1))), succ(bottom()), through(api.LogicWhen, isCon(1), is(succ(bottom()))))
	both := node(api.TermBoth, 0, truth(true), truth(true))
	checkLower(t, p, env, both, step(api.LogicBoth, truth(true), isCon(1), isCon(1)), truth(true), step(api.LogicBoth, truth(true), isCon(1), isCon(1)))
	for r, op := range map[api.LogicRule]api.TermOp{api.LogicUnify: api.TermUnify, api.LogicSame: api.TermSame} {
		e, f := node(op, 0, v(0), v(0)), step(r, truth(true), is(nat(1)), is(nat(1)))
		checkLower(t, p, env, e, f, truth(true), f)
		checkLower(t, p, env, e, f, bottom(), none())
	}
	sum := step(api.LogicNum, num(3), isNum(1), isNum(2))
	checkLower(t, p, env, node(api.TermAdd, 0, num(1), num(2)), sum, num(3), sum)
}

// P6.3: a function with one argument more, and with the last one.
func TestLowerApply(t *testing.T) {
	p := progOf(t, "data Nat = Z | S(Nat); f(a, b, c) = b;")
	env := terms(nat(1), succ(v(3)))
	e := node(api.TermApply, 0, part(0, v(0)), v(1))
	f := step(api.LogicApply, part(0, nat(1), succ(v(3))), isPart(0, is(nat(1))), is(succ(v(3))))
	for _, a := range terms(nat(1), succ(bottom()), bottom()) {
		for _, b := range terms(succ(v(3)), succ(bottom()), bottom()) {
			first, second := is(a), is(b)
			if a.Op == api.TermBot {
				first = none()
			}
			if b.Op == api.TermBot {
				second = none()
			}
			checkLower(t, p, env, e, f, part(0, a, b), step(api.LogicApply, part(0, a, b), isPart(0, first), second))
		}
	}
	checkLower(t, p, env, e, f, bottom(), none())
	e = node(api.TermApply, 0, part(0, v(0), v(1)), num(5))
	f = isPart(0, is(nat(1)), is(succ(v(3))))
	call := by(0, terms(nat(1), succ(v(3)), num(5)), is(nat(1)), is(succ(v(3))), is(num(5)), is(succ(v(3))))
	less := withValue(withKid(call, 3, is(succ(bottom()))), succ(bottom()))
	checkLower(t, p, env, e, through(api.LogicApply, f, isNum(5), call), succ(bottom()), through(api.LogicApply, f, isNum(5), less))
	checkLower(t, p, env, e, through(api.LogicApply, f, isNum(5), call), bottom(), none())
}

func lowerFails(t *testing.T, p api.RuleProg, env []api.Term, e api.Term, f api.LogicProof, value api.Term, want api.Errno) {
	t.Helper()
	got, why := logic.Lower(p, env, e, f, value)
	if why != want || showProof(got) != showProof(api.LogicProof{}) {
		t.Error(showTerm(value), why, showProof(got), "want", want)
	}
}

// P6.3: what is not below; ErrArg comes before ErrRule, and this before ErrNone.
func TestLowerFails(t *testing.T) {
	p := prog(t)
	e, env := goal(t, p, "add(S(Z), x)"), terms(v(7))
	for _, value := range terms(nat(1), succ(v(6)), zero(), v(7), num(1), succ(succ(bottom())), part(0), con(5, bottom(), bottom())) {
		lowerFails(t, p, env, e, addOne(), value, api.ErrNone)
	}
	wrong := withNum(addOne(), 0)
	lowerFails(t, p, env, e, wrong, zero(), api.ErrRule)
	lowerFails(t, p, env, e, wrong, wrong.Value, api.ErrRule)
	lowerFails(t, p, env, e, wrong, bottom(), api.ErrRule)
	lowerFails(t, p, terms(v(6)), e, addOne(), bottom(), api.ErrRule)
	lowerFails(t, p, env, e, none(), zero(), api.ErrNone)
	for _, value := range notVals() {
		lowerFails(t, p, env, e, addOne(), value, api.ErrArg)
		lowerFails(t, p, env, e, wrong, value, api.ErrArg)
	}
	lowerFails(t, p, nil, e, wrong, zero(), api.ErrArg)
}

func bind(n int, x api.Term) api.TermBind { return api.TermBind{Var: n, Term: x} }

func binds(list ...api.TermBind) []api.TermBind { return list }

func checkPut(t *testing.T, p api.RuleProg, f api.LogicProof, l []api.TermBind, want api.LogicProof) {
	t.Helper()
	got, why := logic.Put(p, f, l)
	if why != api.OK || showProof(got) != showProof(want) {
		t.Error(showProof(f), "is", why, showProof(got), "want", showProof(want))
	}
}

// P6.4: Values and Binds of all nodes are changed, at once, and nothing else.
func TestPut(t *testing.T) {
	p := prog(t)
	made, why := logic.Put(p, addOne(), binds(bind(7, zero())))
	if why != api.OK {
		t.Error(why)
	}
	checkAccept(t, p, terms(zero()), goal(t, p, "add(S(Z), x)"), made, api.OK)
	if showTerm(made.Value) != showTerm(nat(1)) {
		t.Error(showProof(made))
	}
	x := con(5, v(0), con(5, v(1), con(5, v(199), bottom())))
	f := by(3, terms(x, part(0, v(1)), num(1)), is(x), step(77, v(0), none(), isPart(0, is(v(7)))))
	y := con(5, v(1), con(5, v(0), con(5, con(5, v(199), part(0, v(0))), bottom())))
	want := by(3, terms(y, part(0, v(0)), num(1)), is(y), step(77, v(1), none(), isPart(0, is(v(7)))))
	checkPut(t, p, f, binds(bind(0, v(1)), bind(1, v(0)), bind(199, con(5, v(199), part(0, v(0))))), want)
	checkPut(t, p, f, nil, f)
	checkPut(t, p, f, binds(bind(2, zero()), bind(6, num(1)), bind(8, v(7))), f)
	var all []api.TermBind
	for n := range api.LogicVars {
		all = append(all, bind(n, v(api.LogicVars-1-n)))
	}
	turned := con(5, v(199), con(5, v(198), con(5, v(0), bottom())))
	checkPut(t, p, is(x), all, is(turned))
}

func putFails(t *testing.T, p api.RuleProg, f api.LogicProof, l []api.TermBind, want api.Errno) {
	t.Helper()
	got, why := logic.Put(p, f, l)
	if why != want || showProof(got) != showProof(api.LogicProof{}) {
		t.Error(why, showProof(got), "want", want)
	}
}

// P6.4: bindings that are not as defined.
func TestPutRefused(t *testing.T) {
	p := prog(t)
	z := zero()
	for _, l := range [][]api.TermBind{
		binds(bind(-1, z)), binds(bind(200, z)), binds(bind(1, z), bind(1, z)), binds(bind(2, z), bind(1, z)), binds(bind(0, z), bind(1, z), bind(0, z)), binds(bind(199, z), bind(200, z)), binds(bind(-1, z), bind(0, z)),
		binds(bind(0, bottom())), binds(bind(0, con(5, z, bottom()))), binds(bind(0, z), bind(1, succ(bottom()))), binds(bind(0, part(0, bottom())), bind(1, z)),
		make([]api.TermBind, 2), make([]api.TermBind, 1<<20), make([]api.TermBind, 1),
	} {
		putFails(t, p, addOne(), l, api.ErrArg)
	}
	for _, x := range notVals() {
		putFails(t, p, addOne(), binds(bind(0, x)), api.ErrArg)
		putFails(t, p, addOne(), binds(bind(0, z), bind(9, x)), api.ErrArg)
	}
	// A variable that stands nowhere is refused, too; and ErrArg comes before ErrLong.
	putFails(t, p, is(tower(29, v(0))), binds(bind(0, nat(1)), bind(1, bottom())), api.ErrArg)
	putFails(t, p, is(tower(29, v(0))), binds(bind(0, nat(1))), api.ErrLong)
}

// P6.4: what would be too large, in a Value, or in one of Binds, of any node.
func TestPutLong(t *testing.T) {
	p := prog(t)
	for _, x := range []struct {
		value, put api.Term
		want       api.Errno
	}{
		{tower(10, v(4)), nat(19), api.OK}, {tower(10, v(4)), nat(20), api.ErrLong}, {v(4), nat(29), api.OK}, {tower(29, v(4)), v(5), api.OK}, {tower(29, v(4)), nat(1), api.ErrLong},
		{con(5, v(4), v(4)), bushy(39), api.OK}, {con(5, v(4), v(4)), bushy(40), api.ErrLong}, {con(5, v(4), v(3)), bushy(78), api.OK}, {con(5, v(4), v(3)), bushy(79), api.ErrLong}, {bushy(79), bushy(80), api.OK},
	} {
		l := binds(bind(4, x.put))
		for _, f := range proofs(is(x.value), step(0, bottom(), none(), is(x.value)), by(0, terms(x.value), none()), by(0, terms(bottom(), x.value), none()), step(1, zero(), step(1, zero(), withBinds(step(api.LogicFun, zero()), x.value)))) {
			got, why := logic.Put(p, f, l)
			if why != x.want || (why != api.OK) != (showProof(got) == showProof(api.LogicProof{})) {
				t.Error(showProof(f), showTerm(x.put), why, "want", x.want)
			}
		}
	}
}

func checkCalls(t *testing.T, p api.RuleProg, f api.LogicProof, want string, nodes int) {
	t.Helper()
	list, n, why := logic.Calls(p, f)
	if got := showNumbers(list); why != api.OK || got != want || n != nodes {
		t.Error(showProof(f), got, n, why, "want", want, nodes)
	}
}

// P6.6: a node comes before its Kids; it does not matter whether the proof proves anything.
func TestCalls(t *testing.T) {
	p := prog(t)
	checkCalls(t, p, none(), "", 1)
	checkCalls(t, p, isNat(3), "", 4)
	checkCalls(t, p, addOne(), "1 0", 9)
	checkCalls(t, p, addCoins(), "0 5 6", 7)
	checkCalls(t, p, lenOne(), "7", 6)
	call := func(n int, kids ...api.LogicProof) api.LogicProof {
		return withNum(step(api.LogicFun, zero(), kids...), n)
	}
	checkCalls(t, p, call(-5, call(99, call(3), call(2)), step(0, zero(), call(1), step(-7, zero(), call(0)))), "-5 99 3 2 1 0", 8)
	checkCalls(t, p, step(99, zero(), call(4, call(4)), call(4)), "4 4 4", 4)
}
