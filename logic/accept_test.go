package logic_test

import (
	"math"
	"slices"
	"testing"

	"swingle/api"
)

// addOne proves add(S(Z), v0) -> S(v7) where v0 is v7, by the rules 1 and 0.
func addOne() api.LogicProof {
	inner := by(0, terms(v(7)), is(zero()), is(v(7)), is(v(7)))
	return by(1, terms(zero(), v(7)), isNat(1), is(v(7)), isCon(3, inner))
}

// addCoins proves add(coin, coin) -> S(Z): the first coin is Z, the second one S(Z).
func addCoins() api.LogicProof {
	return by(0, terms(nat(1)), by(5, nil, isNat(0)), by(6, nil, isNat(1)), is(nat(1)))
}

// lenOne proves len(Cons(v0, Nil)) -> S(Bot), where v0 is Bot.
func lenOne() api.LogicProof {
	return by(7, terms(bottom(), con(4)), isCon(5, is(bottom()), isCon(4)), isCon(3, none()))
}

// P6.2: the chapter's examples.
func TestExamples(t *testing.T) {
	p := prog(t)
	coin := goal(t, p, "coin")
	checkAccept(t, p, nil, coin, by(5, nil, isNat(0)), api.OK)
	checkAccept(t, p, nil, coin, by(6, nil, isNat(1)), api.OK)
	checkAccept(t, p, nil, coin, none(), api.OK)
	checkAccept(t, p, terms(v(7)), goal(t, p, "add(S(Z), x)"), addOne(), api.OK)
	coins := goal(t, p, "add(coin, coin)")
	checkAccept(t, p, nil, coins, addCoins(), api.OK)
	other := addCoins()
	other.Binds = terms(zero())
	checkAccept(t, p, nil, coins, other, api.ErrRule)
	other.Kids[2] = is(zero())
	other.Value = zero()
	checkAccept(t, p, nil, coins, other, api.ErrRule)
	checkAccept(t, p, terms(bottom()), goal(t, p, "len(Cons(x, Nil))"), lenOne(), api.OK)
}

// P6.2, P0.3: what is bound by a let has one value, so both arguments of add are the same.
func TestOneValue(t *testing.T) {
	p := prog(t)
	e := goal(t, p, "let x = coin in add(x, x)")
	coins := []api.LogicProof{by(5, nil, isNat(0)), by(6, nil, isNat(1))}
	// sum proves add(x, x) of two numbers, whatever x is.
	sum := func(a, b int) api.LogicProof {
		f := by(0, terms(nat(b)), is(zero()), is(nat(b)), is(nat(b)))
		for i := range a {
			args := []api.LogicProof{is(nat(i + 1)), is(nat(b))}
			f = by(1, terms(nat(i), nat(b)), args[0], args[1], isCon(3, f))
		}
		return f
	}
	for n, coin := range coins {
		for a := range 3 {
			for b := range 3 {
				want := api.ErrRule
				if a == n && b == n {
					want = api.OK
				}
				checkAccept(t, p, nil, e, through(api.LogicLet, coin, sum(a, b)), want)
			}
		}
	}
	two := goal(t, p, "add(coin, coin)")
	checkAccept(t, p, nil, two, by(1, terms(zero(), zero()), coins[1], coins[0], isCon(3, by(0, terms(zero()), is(zero()), is(zero()), is(zero())))), api.OK)
}

// judged is an expression in an environment with proofs that are right, and others that are not.
type judged struct {
	e     api.Term
	env   []api.Term
	right []api.LogicProof
	wrong []api.LogicProof
}

func proofs(list ...api.LogicProof) []api.LogicProof { return list }

// checkJudged also fails if a proof is accepted that has a Kid more or less, or another Rule.
func checkJudged(t *testing.T, p api.RuleProg, list []judged) {
	t.Helper()
	for _, x := range list {
		checkAccept(t, p, x.env, x.e, none(), api.OK)
		for _, f := range x.wrong {
			checkAccept(t, p, x.env, x.e, f, api.ErrRule)
		}
		for _, f := range x.right {
			checkAccept(t, p, x.env, x.e, f, api.OK)
			more := f
			more.Kids = append(slices.Clone(f.Kids), none())
			checkAccept(t, p, x.env, x.e, more, api.ErrRule)
			if len(f.Kids) > 0 {
				less := f
				less.Kids = f.Kids[:len(f.Kids)-1]
				checkAccept(t, p, x.env, x.e, less, api.ErrRule)
				less.Kids = f.Kids[1:]
				checkAccept(t, p, x.env, x.e, less, api.ErrRule)
			}
			for r := api.LogicRule(-1); r <= api.LogicApply+1; r++ {
				other := f
				other.Rule = r
				if r == f.Rule || r != api.LogicFun && len(f.Binds) > 0 {
					continue
				}
				if r != api.LogicFun {
					other.Num = 0
				}
				checkAccept(t, p, x.env, x.e, other, api.ErrRule)
			}
		}
	}
}

// P6.2: variables, integers, constructors and partial calls.
func TestAcceptValues(t *testing.T) {
	p := prog(t)
	pair := con(5, zero(), v(3))
	checkJudged(t, p, []judged{
		{v(1), terms(num(1), pair), proofs(is(pair), is(con(5, zero(), bottom())), is(con(5, bottom(), bottom()))),
			proofs(is(v(3)), is(num(1)), is(con(5, zero(), v(4))), is(con(5, v(3), v(3))), isCon(5, isNat(0), is(v(3))))},
		{v(0), terms(bottom()), nil, proofs(is(zero()), is(v(0)))},
		{v(0), terms(v(0)), proofs(is(v(0))), proofs(is(v(1)), is(zero()))},
		{num(5), nil, proofs(isNum(5)), proofs(isNum(4), isCon(2), step(api.LogicInt, bottom()), step(api.LogicInt, zero()))},
		{zero(), nil, proofs(isCon(2)), proofs(isCon(4), isNum(2), step(api.LogicCon, bottom()), step(api.LogicCon, part(3)))},
		{succ(v(0)), terms(nat(1)), proofs(isNat2(is(nat(1))), isNat2(is(succ(bottom()))), isNat2(none())),
			proofs(isNat(2), isNat2(is(nat(2))), step(api.LogicCon, nat(1), is(nat(1))), step(api.LogicCon, bottom(), is(nat(1))), step(api.LogicPart, nat(2), is(nat(1))))},
		{con(5, v(0), v(1)), terms(v(8), v(9)), proofs(isCon(5, is(v(8)), is(v(9))), isCon(5, none(), is(v(9)))),
			proofs(isCon(5, is(v(9)), is(v(8))), step(api.LogicCon, con(5, v(9), v(8)), is(v(8)), is(v(9))), isPart(0, is(v(8))))},
		{part(0, v(0)), terms(v(8)), proofs(isPart(0, is(v(8))), isPart(0, none())),
			proofs(isPart(1, is(v(8))), isPart(0, is(v(9))), isCon(3, is(v(8))), step(api.LogicPart, part(0), is(v(8))), step(api.LogicPart, bottom(), is(v(8))))},
		{part(5), nil, proofs(isPart(5)), proofs(isPart(6), isPart(0), step(api.LogicPart, con(2)))},
	})
	wrong := none()
	wrong.Value = zero()
	checkAccept(t, p, nil, zero(), wrong, api.ErrRule)
	checkAccept(t, p, nil, zero(), step(api.LogicBot, bottom(), none()), api.ErrRule)
}

// isNat2 is S around what a proof proves.
func isNat2(kid api.LogicProof) api.LogicProof { return isCon(3, kid) }

// withNum is a proof with another rule's number.
func withNum(f api.LogicProof, n int) api.LogicProof {
	f.Num = n
	return f
}

func withBinds(f api.LogicProof, binds ...api.Term) api.LogicProof {
	f.Binds = binds
	return f
}

func withValue(f api.LogicProof, value api.Term) api.LogicProof {
	f.Value = value
	return f
}

// withKid is a proof with another Kid in place of the Kid i.
func withKid(f api.LogicProof, i int, kid api.LogicProof) api.LogicProof {
	f.Kids = slices.Clone(f.Kids)
	f.Kids[i] = kid
	return f
}

// P6.2: calls.
func TestAcceptCalls(t *testing.T) {
	p := prog(t)
	one, coins, first := addOne(), addCoins(), lenOne()
	free := by(8, terms(con(4), nat(0)), is(con(4)), by(0, terms(zero()), is(zero()), is(zero()), is(zero())))
	whole := by(13, terms(num(1), num(2)), isNum(1), isNum(2), through(api.LogicWhen,
		through(api.LogicBoth, step(api.LogicNum, truth(true), is(num(1)), is(num(2))), step(api.LogicSame, truth(true), isNum(0), isNum(0))),
		through(api.LogicRight, is(num(2)))))
	checkJudged(t, p, []judged{
		{goal(t, p, "add(S(Z), x)"), terms(v(7)), proofs(one), proofs(
			withNum(one, 0), withNum(one, -1), withNum(one, 14), withNum(one, 2), withNum(one, math.MaxInt), withNum(one, math.MinInt),
			withBinds(one, zero(), v(6)), withBinds(one, bottom(), v(7)), withBinds(one, zero()), withBinds(one), withBinds(one, zero(), v(7), bottom()), withBinds(one, v(7), zero()),
			withValue(one, nat(1)), withValue(one, succ(bottom())), withValue(one, bottom()),
			withKid(one, 0, isNat(2)), withKid(one, 0, isNat2(none())), withKid(one, 0, none()), withKid(one, 1, none()), withKid(one, 1, is(v(6))), withKid(one, 2, none()), withKid(one, 2, isNat(1)))},
		{goal(t, p, "add(coin, coin)"), nil, proofs(coins), proofs(withKid(coins, 0, coins.Kids[1]), withKid(coins, 1, coins.Kids[0]), withKid(coins, 1, isNat(1)), withKid(coins, 0, by(6, nil, isNat(0))), withKid(coins, 2, is(nat(0))))},
		{goal(t, p, "len(Cons(x, Nil))"), terms(bottom()), proofs(first), proofs(withNum(first, 8), withBinds(first, con(4), bottom()), withBinds(first, zero(), con(4)))},
		{goal(t, p, "len(y)"), terms(con(4)), proofs(free, withBinds(free, con(4), zero())), proofs(withBinds(free, con(4), bottom()), withBinds(free, con(4), v(0)), withBinds(free, bottom(), zero()), withBinds(free, con(4)))},
		{goal(t, p, "len(y)"), terms(bottom()), proofs(withKid(withBinds(free, bottom(), zero()), 0, none())), nil},
		{goal(t, p, "pick(1, 2)"), nil, proofs(whole), proofs(withBinds(whole, num(2), num(1)), withBinds(whole, num(1), num(3)))},
	})
	// A call of what proves nothing is proved by LogicBot alone.
	nothing := by(8, terms(con(4), bottom()), is(con(4)), none())
	checkAccept(t, p, terms(con(4)), goal(t, p, "len(y)"), nothing, api.ErrRule)
}

// P6.2: the variables of TermLets have nothing, whatever Binds have for them.
func TestLetsOfRules(t *testing.T) {
	p := progOf(t, "data Nat = Z | S(Nat); f(x) = let y = S(x) in let z = y in z;")
	e := fun(0, v(0))
	for _, binds := range [][]api.Term{terms(v(5), bottom(), bottom()), terms(v(5), zero(), bottom()), terms(v(5), v(9), nat(1))} {
		inner := through(api.LogicLet, is(succ(v(5))), is(succ(v(5))))
		right := by(0, binds, is(v(5)), through(api.LogicLet, isCon(3, is(v(5))), inner))
		checkAccept(t, p, terms(v(5)), e, right, api.OK)
		wrong := by(0, binds, is(v(5)), through(api.LogicLet, isCon(3, is(v(5))), through(api.LogicLet, is(succ(v(5))), is(zero()))))
		checkAccept(t, p, terms(v(5)), e, wrong, api.ErrRule)
	}
}

// P6.2: choices, lets and conditions.
func TestAcceptControl(t *testing.T) {
	p := prog(t)
	let := func(a, b api.LogicProof) api.LogicProof { return through(api.LogicLet, a, b) }
	when := func(a, b api.LogicProof) api.LogicProof { return through(api.LogicWhen, a, b) }
	both := func(a, b api.LogicProof) api.LogicProof { return step(api.LogicBoth, truth(true), a, b) }
	yes, no := isCon(1), isCon(0)
	checkAccept(t, p, nil, goal(t, p, "Z ? 7"), through(api.LogicLeft, none()), api.OK)
	unknown := terms(truth(true), truth(false), bottom(), v(0), num(1))
	checkJudged(t, p, []judged{
		{goal(t, p, "Z ? 7"), nil, proofs(through(api.LogicLeft, isNat(0)), through(api.LogicRight, isNum(7))),
			proofs(through(api.LogicLeft, isNum(7)), through(api.LogicRight, isNat(0)), withValue(through(api.LogicLeft, isNat(0)), num(7)), withValue(through(api.LogicLeft, isNat(0)), bottom()), withValue(through(api.LogicLeft, none()), zero()))},
		{goal(t, p, "let x = S(y) in Cons(x, x)"), terms(bottom(), v(3)), proofs(let(isNat2(is(v(3))), isCon(5, is(succ(v(3))), is(succ(bottom())))), let(none(), isCon(5, none(), is(bottom()))), let(isNat2(none()), none())),
			proofs(let(isNat2(none()), isCon(5, is(succ(v(3))), none())), let(is(v(3)), isCon(5, none(), none())), let(isNat(2), isCon(5, none(), none())), withValue(let(none(), isCon(5, none(), none())), bottom()))},
		{goal(t, p, "when x then y"), unknown, proofs(when(is(truth(true)), is(truth(false))), when(is(truth(true)), none())),
			proofs(when(is(truth(true)), is(truth(true))), when(none(), is(truth(false))), when(is(truth(false)), is(truth(false))), withValue(when(is(truth(true)), none()), truth(false)), withValue(when(is(truth(true)), is(truth(false))), bottom()))},
		{node(api.TermWhen, 0, v(1), v(0)), unknown, nil, proofs(when(is(truth(false)), is(truth(true))))},
		{node(api.TermWhen, 0, v(2), v(0)), unknown, nil, proofs(when(is(bottom()), is(truth(true))), when(none(), is(truth(true))))},
		{node(api.TermWhen, 0, v(3), v(0)), unknown, nil, proofs(when(is(v(0)), is(truth(true))))},
		{node(api.TermWhen, 0, v(4), v(0)), unknown, nil, proofs(when(is(num(1)), is(truth(true))))},
		{goal(t, p, "True & True"), nil, proofs(both(yes, yes)), proofs(both(yes, no), both(no, yes), both(none(), yes), both(yes, none()), withValue(both(yes, yes), truth(false)), withValue(both(yes, yes), bottom()))},
		{goal(t, p, "True & False"), nil, nil, proofs(both(yes, no), both(yes, yes), withValue(both(yes, no), truth(false)))},
		{goal(t, p, "False & True"), nil, nil, proofs(both(no, yes), withValue(both(no, yes), truth(false)))},
		{node(api.TermBoth, 0, v(3), v(0)), unknown, nil, proofs(both(is(v(0)), is(truth(true))))},
		{node(api.TermBoth, 0, v(0), v(4)), unknown, nil, proofs(both(is(truth(true)), is(num(1))))},
	})
}

// P6.2: a let binds in its second Kid alone, and what it hides is there again behind it.
func TestLetScope(t *testing.T) {
	p := prog(t)
	let := func(n int, a, b api.Term) api.Term { return node(api.TermLet, n, a, b) }
	e := con(5, let(0, v(0), succ(v(0))), v(0))
	f := isCon(5, through(api.LogicLet, is(v(9)), isNat2(is(v(9)))), is(v(9)))
	checkAccept(t, p, terms(v(9)), e, f, api.OK)
	e = con(5, let(0, succ(v(0)), let(0, succ(v(0)), v(0))), v(0))
	inner := through(api.LogicLet, isNat2(is(nat(1))), is(nat(2)))
	outer := through(api.LogicLet, isNat2(is(zero())), inner)
	checkAccept(t, p, terms(zero()), e, isCon(5, outer, is(zero())), api.OK)
	checkAccept(t, p, terms(zero()), e, isCon(5, outer, is(nat(1))), api.ErrRule)
	checkAccept(t, p, terms(zero()), e, isCon(5, withKid(outer, 1, through(api.LogicLet, isNat2(is(zero())), is(nat(1)))), is(zero())), api.ErrRule)
	// The environment need not have the variable yet, nor those before it.
	e = let(19, num(1), let(7, num(2), con(5, v(19), con(5, v(7), v(0)))))
	f = through(api.LogicLet, isNum(1), through(api.LogicLet, isNum(2), isCon(5, is(num(1)), isCon(5, is(num(2)), is(num(3))))))
	checkAccept(t, p, terms(num(3)), e, f, api.OK)
	e.Kids[1].Kids[1].Kids[0] = v(8)
	checkAccept(t, p, terms(num(3)), e, f, api.ErrArg)
}

// P6.2: equalities; u is total, or both are ground.
func TestAcceptEqualities(t *testing.T) {
	p := prog(t)
	unify := func(a, b api.LogicProof) api.LogicProof { return step(api.LogicUnify, truth(true), a, b) }
	equal := func(is bool, a, b api.LogicProof) api.LogicProof { return step(api.LogicSame, truth(is), a, b) }
	env := terms(con(5, zero(), v(3)), con(5, zero(), v(3)), nat(2), nat(2), succ(bottom()), num(2), num(2), part(0, v(1)), part(0, v(1)), v(6))
	a, two, less, open := is(env[0]), is(nat(2)), is(succ(bottom())), is(env[7])
	with := func(op api.TermOp, x, y int) api.Term { return node(op, 0, v(x), v(y)) }
	checkJudged(t, p, []judged{
		{with(api.TermUnify, 0, 1), env, proofs(unify(a, a)), proofs(unify(a, is(con(5, zero(), bottom()))), unify(is(con(5, zero(), bottom())), is(con(5, zero(), bottom()))), unify(none(), none()), withValue(unify(a, a), bottom()), withValue(unify(a, a), truth(false)), withValue(unify(a, a), a.Value))},
		{with(api.TermUnify, 2, 3), env, proofs(unify(two, two)), proofs(unify(two, is(nat(1))), unify(less, less))},
		{with(api.TermUnify, 4, 4), env, nil, proofs(unify(less, less), unify(is(bottom()), is(bottom())))},
		{with(api.TermUnify, 5, 6), env, proofs(unify(is(num(2)), is(num(2)))), nil},
		{with(api.TermUnify, 7, 8), env, proofs(unify(open, open)), proofs(unify(is(part(0, bottom())), is(part(0, bottom()))))},
		{with(api.TermUnify, 9, 9), env, proofs(unify(is(v(6)), is(v(6)))), proofs(unify(is(v(5)), is(v(5))))},
		{with(api.TermUnify, 2, 5), env, nil, proofs(unify(two, is(num(2))), withValue(unify(two, is(num(2))), truth(false)))},
		{with(api.TermSame, 2, 3), env, proofs(equal(true, two, two)), proofs(equal(false, two, two), equal(true, less, less), equal(false, two, less), equal(false, less, two), withValue(equal(true, two, two), bottom()))},
		{with(api.TermSame, 2, 5), env, proofs(equal(false, two, is(num(2)))), proofs(equal(true, two, is(num(2))), withValue(equal(false, two, is(num(2))), bottom()), equal(false, none(), is(num(2))), equal(false, two, none()))},
		{with(api.TermSame, 0, 1), env, nil, proofs(equal(true, a, a), equal(false, a, a))},
		{with(api.TermSame, 2, 9), env, nil, proofs(equal(false, two, is(v(6))), equal(true, two, is(v(6))))},
		{with(api.TermSame, 9, 2), env, nil, proofs(equal(false, is(v(6)), two))},
		{with(api.TermSame, 4, 5), env, nil, proofs(equal(false, less, is(num(2))))},
		{node(api.TermSame, 0, part(0), part(0)), nil, proofs(equal(true, isPart(0), isPart(0))), nil},
		{node(api.TermSame, 0, part(0), part(1)), nil, proofs(equal(false, isPart(0), isPart(1))), nil},
	})
}

// P6.2: integers, up to the greatest ones.
func TestAcceptNumbers(t *testing.T) {
	p := prog(t)
	most := api.TermMost
	for _, x := range []struct {
		op   api.TermOp
		a, b int
		want api.Term
	}{
		{api.TermAdd, 3, 4, num(7)}, {api.TermAdd, -3, 4, num(1)}, {api.TermAdd, most, 0, num(most)}, {api.TermAdd, most - 1, 1, num(most)}, {api.TermAdd, -most, 0, num(-most)},
		{api.TermSub, 3, 4, num(-1)}, {api.TermSub, 4, 3, num(1)}, {api.TermSub, 1 - most, 1, num(-most)}, {api.TermSub, most, most, num(0)}, {api.TermSub, -most, -most, num(0)},
		{api.TermLess, 3, 4, truth(true)}, {api.TermLess, 4, 3, truth(false)}, {api.TermLess, 3, 3, truth(false)}, {api.TermLess, -4, -3, truth(true)}, {api.TermLess, -most, most, truth(true)},
	} {
		e := node(x.op, 0, num(x.a), num(x.b))
		right := step(api.LogicNum, x.want, isNum(x.a), isNum(x.b))
		wrong := proofs(withValue(right, bottom()), withValue(right, num(13)), withValue(right, zero()), withKid(right, 0, none()), withKid(right, 1, none()), withKid(right, 0, isNum(77)))
		if x.op == api.TermLess {
			other := truth(x.want.N == 0)
			wrong = append(wrong, withValue(right, other), withValue(right, num(x.want.N)))
		}
		checkJudged(t, p, []judged{{e, nil, proofs(right), wrong}})
	}
	for _, x := range []struct {
		op         api.TermOp
		a, b, want int
	}{{api.TermAdd, most, 1, most}, {api.TermAdd, 1, most, 0}, {api.TermAdd, -most, -1, -most}, {api.TermSub, -most, 1, -most}, {api.TermSub, most, -1, most}, {api.TermSub, most, -most, 0}} {
		checkAccept(t, p, nil, node(x.op, 0, num(x.a), num(x.b)), step(api.LogicNum, num(x.want), isNum(x.a), isNum(x.b)), api.ErrRule)
	}
	for _, op := range []api.TermOp{api.TermAdd, api.TermSub, api.TermLess} {
		e := node(op, 0, v(0), v(1))
		for _, env := range [][]api.Term{terms(num(1), zero()), terms(zero(), num(1)), terms(num(1), v(0)), terms(v(0), num(1)), terms(num(1), part(0)), terms(con(0), con(1))} {
			kids := proofs(is(env[0]), is(env[1]))
			for _, value := range terms(num(0), num(1), num(2), truth(true), truth(false), bottom()) {
				checkAccept(t, p, env, e, step(api.LogicNum, value, kids...), api.ErrRule)
			}
		}
	}
	kids := proofs(isNum(1), isNum(1))
	for _, op := range []api.TermOp{api.TermUnify, api.TermSame, api.TermOr, api.TermWhen, api.TermBoth, api.TermApply} {
		for _, value := range terms(num(2), num(0), truth(true), truth(false)) {
			checkAccept(t, p, nil, node(op, 0, num(1), num(1)), step(api.LogicNum, value, kids...), api.ErrRule)
		}
	}
}

// P6.2: function values with one argument more, and calls of them.
func TestAcceptApply(t *testing.T) {
	p := prog(t)
	apply := func(f, x api.Term) api.Term { return node(api.TermApply, 0, f, x) }
	held := step(api.LogicApply, part(0, v(3)), isPart(0), is(v(3)))
	sum := by(0, terms(v(4)), is(zero()), is(v(4)), is(v(4)))
	called := through(api.LogicApply, isPart(0, isNat(0)), is(v(4)), sum)
	half := through(api.LogicApply, isPart(4), isNat(0), by(9, terms(zero(), zero()), is(zero()), through(api.LogicWhen,
		step(api.LogicUnify, truth(true), by(0, terms(zero()), is(zero()), is(zero()), is(zero())), is(zero())), is(zero()))))
	checkJudged(t, p, []judged{
		{apply(part(0), v(0)), terms(v(3)), proofs(held, step(api.LogicApply, part(0, bottom()), isPart(0), none())),
			proofs(withValue(held, part(0, bottom())), withValue(held, part(0)), withValue(held, part(1, v(3))), withValue(held, bottom()), withKid(held, 0, isPart(1)), withKid(held, 0, none()), withKid(held, 1, none()), withKid(held, 1, is(v(4))), step(api.LogicApply, v(3), isPart(0), is(v(3)), is(v(3))))},
		{apply(part(0, zero()), v(0)), terms(v(4)), proofs(called, withValue(withKid(called, 2, withValue(withKid(sum, 2, is(v(4))), v(4))), v(4))),
			proofs(withValue(called, zero()), withValue(called, bottom()), withKid(called, 0, isPart(0, none())), withKid(called, 1, none()), withKid(called, 2, none()), withKid(called, 2, is(v(4))), withKid(called, 0, isPart(0, isNat(1))), withKid(called, 2, withNum(sum, 1)))},
		{apply(part(4), zero()), nil, proofs(half), proofs(withKid(half, 0, isPart(3)), withKid(half, 1, none()))},
		{apply(v(0), v(1)), terms(part(0), bottom()), proofs(step(api.LogicApply, part(0, bottom()), is(part(0)), is(bottom()))), nil},
		{apply(v(0), v(1)), terms(con(4), zero()), nil, proofs(step(api.LogicApply, con(4), is(con(4)), is(zero())), step(api.LogicApply, part(0, zero()), is(con(4)), is(zero())), through(api.LogicApply, is(con(4)), is(zero()), isNat(0)))},
		{apply(v(0), v(1)), terms(v(0), zero()), nil, proofs(step(api.LogicApply, part(0, zero()), is(v(0)), is(zero())), through(api.LogicApply, is(v(0)), is(zero()), isNat(0)))},
		{apply(v(0), v(1)), terms(bottom(), zero()), nil, proofs(step(api.LogicApply, part(0, zero()), none(), is(zero())), step(api.LogicApply, bottom(), none(), is(zero())))},
	})
	// The call has nothing of the environment but the arguments.
	wide := progOf(t, "data Nat = Z | S(Nat); f(a, b, c, d) = d;")
	e := apply(part(0, v(5), v(4), v(3)), v(2))
	env := terms(num(0), num(1), num(2), num(3), num(4), num(5))
	f := by(0, terms(num(5), num(4), num(3), num(2)), is(num(5)), is(num(4)), is(num(3)), is(num(2)), is(num(2)))
	checkAccept(t, wide, env, e, through(api.LogicApply, isPart(0, is(num(5)), is(num(4)), is(num(3))), is(num(2)), f), api.OK)
	g := by(0, terms(num(0), num(1), num(2), num(3)), is(num(0)), is(num(1)), is(num(2)), is(num(3)), is(num(3)))
	checkAccept(t, wide, env, e, through(api.LogicApply, isPart(0, is(num(5)), is(num(4)), is(num(3))), is(num(2)), g), api.ErrRule)
}

// P6.2: a partial call with one argument more can be too large for a partial value, which a Value then cannot be.
func TestAcceptTooLarge(t *testing.T) {
	p := prog(t)
	big := bushy(79)
	e := node(api.TermApply, 0, part(0), v(0))
	checkAccept(t, p, terms(big), e, step(api.LogicApply, part(0, big), isPart(0), is(big)), api.OK)
	big = bushy(80)
	for _, value := range terms(part(0, bottom()), part(0), part(0, zero()), bottom()) {
		checkAccept(t, p, terms(big), e, step(api.LogicApply, value, isPart(0), is(big)), api.ErrRule)
	}
	checkAccept(t, p, terms(big), e, step(api.LogicApply, part(0, big), isPart(0), is(big)), api.ErrArg)
}
