package logic_test

import (
	"math"
	"math/rand"
	"testing"

	"swingle/api"
	"swingle/logic"
)

func checkVal(t *testing.T, s api.TermSig, x api.Term, total, ground bool, want api.Errno) {
	t.Helper()
	a, b, e := logic.CheckVal(s, x)
	if a != total || b != ground || e != want {
		t.Error(showTerm(x), a, b, e, "want", total, ground, want)
	}
}

// list is so many Cons with a term, around another one.
func list(n int, x, inside api.Term) api.Term {
	for range n {
		inside = con(5, x, inside)
	}
	return inside
}

// bushy is a value with so many nodes, which is not deep: two nodes for each Cons.
func bushy(nodes int) api.Term {
	if nodes <= 2 {
		return tower(nodes-1, zero())
	}
	half := (nodes - 1) / 2
	return con(5, bushy(half), bushy(nodes-1-half))
}

// P6.1: what is a partial value, and whether it is total and ground.
func TestCheckVal(t *testing.T) {
	s := prog(t).Sig
	for _, x := range []struct {
		value         api.Term
		total, ground bool
	}{
		{succ(bottom()), false, false}, {succ(v(0)), true, false}, {succ(zero()), true, true},
		{bottom(), false, false}, {v(0), true, false}, {v(199), true, false}, {num(0), true, true},
		{num(1000000), true, true}, {num(-1000000), true, true},
		{con(5, bottom(), v(3)), false, false}, {con(5, v(3), bottom()), false, false}, {con(5, zero(), v(20)), true, false},
		{con(5, con(5, zero(), bottom()), zero()), false, false}, {con(5, zero(), con(4)), true, true},
		{part(0), true, true}, {part(0, zero()), true, true}, {part(0, v(1)), true, false}, {part(0, bottom()), false, false},
		{part(3), true, true}, {part(7, part(5, part(0))), true, true}, {con(5, num(4), part(6)), true, true},
		{tower(29, zero()), true, true}, {tower(29, bottom()), false, false}, {tower(29, v(7)), true, false},
		{bushy(80), true, true}, {list(26, part(0, num(1)), zero()), true, true},
	} {
		checkVal(t, s, x.value, x.total, x.ground, api.OK)
	}
	if n := count(bushy(80)); n != 80 {
		t.Fatal(n)
	}
	for _, x := range notVals() {
		checkVal(t, s, x, false, false, api.ErrArg)
		checkVal(t, s, succ(x), false, false, api.ErrArg)
		checkVal(t, s, con(5, bottom(), x), false, false, api.ErrArg)
		checkVal(t, s, part(0, x), false, false, api.ErrArg)
	}
}

// notVals are no partial values for the program of the source, each with one thing wrong.
func notVals() []api.Term {
	list := terms(
		api.Term{}, node(api.TermBot, 1), node(api.TermBot, -1), node(api.TermBot, 0, zero()), node(api.TermBot, 0, bottom()),
		v(-1), v(200), v(math.MaxInt), v(math.MinInt), node(api.TermVar, 1, zero()),
		num(1000001), num(-1000001), num(math.MaxInt), num(math.MinInt), node(api.TermInt, 1, num(1)),
		con(-1), con(6), con(math.MaxInt), con(math.MinInt), con(3), con(2, zero()), con(3, zero(), zero()), con(5, zero()), con(5, zero(), zero(), zero()),
		part(-1), part(8), part(math.MaxInt), part(math.MinInt), part(2), part(0, zero(), zero()), part(3, zero()), part(0, zero(), zero(), zero()),
		fun(2), fun(0, zero(), zero()), fun(3, bottom()),
		node(api.TermApply, 0, part(0), zero()), node(api.TermOr, 0, zero(), zero()), node(api.TermLet, 0, zero(), zero()), node(api.TermWhen, 0, truth(true), zero()),
		node(api.TermBoth, 0, truth(true), truth(true)), node(api.TermUnify, 0, zero(), zero()), node(api.TermSame, 0, zero(), zero()),
		node(api.TermAdd, 0, num(1), num(1)), node(api.TermSub, 0, num(1), num(1)), node(api.TermLess, 0, num(1), num(1)),
		node(api.TermBot+1, 0), node(-1, 0), node(math.MaxInt, 0), node(math.MinInt, 0),
		bushy(81), tower(30, zero()), tower(30, bottom()), tower(30, v(0)),
		endless(api.TermCon, 3, 1), endless(api.TermCon, 5, 2), endless(api.TermPart, 0, 1), api.Term{Op: api.TermCon, N: 2, Kids: make([]api.Term, 1<<20)},
	)
	return list
}

// endless is a term that leads back to itself.
func endless(op api.TermOp, n, wide int) api.Term {
	t := api.Term{Op: op, N: n, Kids: make([]api.Term, wide)}
	for i := range t.Kids {
		t.Kids[i] = t
	}
	return t
}

// badSigs are signatures that are not formed, for which a Z, if there is one, is still the constructor 2.
func badSigs(t *testing.T) []api.TermSig {
	t.Helper()
	list := []api.TermSig{{}}
	change := func(do func(s *api.TermSig)) {
		s := prog(t).Sig
		do(&s)
		list = append(list, s)
	}
	change(func(s *api.TermSig) { s.Cons[1].Name = "Truth" })
	change(func(s *api.TermSig) { s.Cons[0].Args = 1 })
	change(func(s *api.TermSig) { s.Cons[5].Name = "Z" })
	change(func(s *api.TermSig) { s.Cons[5].Args = 5 })
	change(func(s *api.TermSig) { s.Funs[1].Name = "add" })
	change(func(s *api.TermSig) { s.Funs[7].Name = "" })
	change(func(s *api.TermSig) { s.Funs[7].Args = -1 })
	change(func(s *api.TermSig) { s.Funs = append(s.Funs, api.TermName{Name: "more"}) })
	change(func(s *api.TermSig) { s.Cons = append(s.Cons, make([]api.TermName, 1<<16)...) })
	return list
}

// P6.1: all three functions refuse what is not as defined.
func TestRefusedValues(t *testing.T) {
	s := prog(t).Sig
	refused := func(s api.TermSig, a, b api.Term) {
		t.Helper()
		if is, e := logic.Below(s, a, b); is || e != api.ErrArg {
			t.Error(is, e, showTerm(a), showTerm(b))
		}
		if made, e := logic.Join(s, a, b); showTerm(made) != showTerm(api.Term{}) || e != api.ErrArg {
			t.Error(showTerm(made), e, showTerm(a), showTerm(b))
		}
	}
	for _, x := range notVals() {
		refused(s, x, zero())
		refused(s, zero(), x)
		refused(s, bottom(), x)
		refused(s, x, bottom())
	}
	for _, bad := range badSigs(t) {
		refused(bad, zero(), zero())
		checkVal(t, bad, zero(), false, false, api.ErrArg)
	}
}

func checkBelow(t *testing.T, a, b api.Term, want bool) {
	t.Helper()
	is, e := logic.Below(prog(t).Sig, a, b)
	if is != want || e != api.OK {
		t.Error(showTerm(a), showTerm(b), is, e, "want", want)
	}
}

// P6.1: of two values that differ, each row's first one is below the second one, and not the other way.
func TestBelow(t *testing.T) {
	for _, x := range [][2]api.Term{
		{succ(bottom()), succ(zero())}, {bottom(), zero()}, {bottom(), v(4)}, {bottom(), num(-7)}, {bottom(), part(0)}, {bottom(), tower(29, bottom())},
		{con(5, bottom(), con(4)), con(5, v(1), con(4))}, {con(5, v(1), bottom()), con(5, v(1), con(4))}, {con(5, bottom(), bottom()), con(5, zero(), bottom())},
		{part(0, bottom()), part(0, num(1))}, {part(5, part(0, bottom())), part(5, part(0, zero()))}, {tower(29, bottom()), tower(29, v(0))},
	} {
		checkBelow(t, x[0], x[1], true)
		checkBelow(t, x[1], x[0], false)
		checkBelow(t, x[0], x[0], true)
		checkBelow(t, x[1], x[1], true)
	}
	for _, x := range [][2]api.Term{
		{v(0), zero()}, {v(0), v(1)}, {num(0), num(1)}, {num(2), con(2)}, {zero(), con(4)}, {succ(v(0)), succ(v(1))}, {succ(v(0)), succ(zero())},
		{part(0), part(0, bottom())}, {part(0), part(1)}, {part(2 + 1), con(2 + 2)}, {con(5, bottom(), zero()), con(5, zero(), bottom())}, {con(5, zero(), con(4)), con(5, bottom(), zero())}, {tower(29, zero()), tower(28, zero())},
	} {
		checkBelow(t, x[0], x[1], false)
		checkBelow(t, x[1], x[0], false)
	}
}

func checkJoin(t *testing.T, a, b, want api.Term, why api.Errno) {
	t.Helper()
	got, e := logic.Join(prog(t).Sig, a, b)
	if showTerm(got) != showTerm(want) || e != why {
		t.Error(showTerm(a), showTerm(b), showTerm(got), e, "want", showTerm(want), why)
	}
}

// P6.1
func TestJoin(t *testing.T) {
	for _, x := range [][3]api.Term{
		{con(5, bottom(), con(4)), con(5, zero(), bottom()), con(5, zero(), con(4))},
		{bottom(), bottom(), bottom()}, {bottom(), v(3), v(3)}, {v(3), v(3), v(3)}, {num(5), bottom(), num(5)}, {num(5), num(5), num(5)},
		{part(0, bottom()), part(0, zero()), part(0, zero())}, {part(0), part(0), part(0)}, {bottom(), tower(29, bottom()), tower(29, bottom())},
		{con(5, succ(bottom()), bottom()), con(5, bottom(), con(5, v(1), bottom())), con(5, succ(bottom()), con(5, v(1), bottom()))},
		{con(5, bottom(), tower(28, bottom())), con(5, tower(28, v(0)), bottom()), con(5, tower(28, v(0)), tower(28, bottom()))},
	} {
		checkJoin(t, x[0], x[1], x[2], api.OK)
		checkJoin(t, x[1], x[0], x[2], api.OK)
	}
	for _, x := range [][2]api.Term{
		{zero(), con(4)}, {v(0), v(1)}, {v(0), zero()}, {num(1), num(2)}, {num(2), con(2)}, {part(0), part(1)}, {part(0), part(0, bottom())}, {part(3), con(4)},
		{succ(zero()), succ(succ(bottom()))}, {con(5, zero(), bottom()), con(5, con(4), bottom())}, {con(5, bottom(), zero()), con(5, bottom(), v(0))}, {part(0, zero()), part(0, v(0))},
	} {
		checkJoin(t, x[0], x[1], api.Term{}, api.ErrNone)
		checkJoin(t, x[1], x[0], api.Term{}, api.ErrNone)
	}
}

// P6.1: a join can be too large; that there is none comes first.
func TestLongJoin(t *testing.T) {
	pair := func(a, b api.Term) api.Term { return con(5, a, b) }
	checkJoin(t, pair(bushy(40), bottom()), pair(bottom(), bushy(39)), pair(bushy(40), bushy(39)), api.OK)
	checkJoin(t, pair(bushy(40), bottom()), pair(bottom(), bushy(40)), api.Term{}, api.ErrLong)
	checkJoin(t, pair(bottom(), bushy(78)), pair(bushy(2), bottom()), api.Term{}, api.ErrLong)
	checkJoin(t, pair(bushy(78), bottom()), pair(bottom(), bushy(78)), api.Term{}, api.ErrLong)
	checkJoin(t, pair(pair(bushy(40), bottom()), zero()), pair(pair(bottom(), bushy(40)), con(4)), api.Term{}, api.ErrNone)
	checkJoin(t, pair(zero(), pair(bushy(40), bottom())), pair(con(4), pair(bottom(), bushy(40))), api.Term{}, api.ErrNone)
}

// aValue makes a partial value with a few contents, so that many are comparable.
func aValue(r *rand.Rand, deep int) api.Term {
	if deep > 0 && r.Intn(3) > 0 {
		if r.Intn(4) == 0 {
			return part(7, aValue(r, deep-1))
		}
		return con(5, aValue(r, deep-1), aValue(r, deep-1))
	}
	return terms(bottom(), bottom(), bottom(), zero(), v(r.Intn(2)), num(7), part(7))[r.Intn(7)]
}

// cut returns something below a value.
func cut(r *rand.Rand, x api.Term, less int) api.Term {
	if r.Intn(less) == 0 {
		return bottom()
	}
	made := node(x.Op, x.N)
	for _, k := range x.Kids {
		made.Kids = append(made.Kids, cut(r, k, less))
	}
	return made
}

// P6.1: an order, with least upper bounds where there are upper bounds.
func TestOrder(t *testing.T) {
	t.Parallel()
	r := rand.New(rand.NewSource(1))
	s := prog(t).Sig
	is := func(a, b api.Term) bool {
		below, e := logic.Below(s, a, b)
		if e != api.OK {
			t.Fatal(e, showTerm(a), showTerm(b))
		}
		return below
	}
	met := map[string]int{}
	for range 20000 {
		top := aValue(r, 4)
		a, b, c := cut(r, top, 6), cut(r, top, 6), aValue(r, 3)
		if !is(a, top) || !is(b, top) || !is(top, top) {
			t.Fatal("what was cut is not below", showTerm(a), showTerm(b), showTerm(top))
		}
		if is(a, b) && is(b, a) && showTerm(a) != showTerm(b) {
			t.Fatal("below each other", showTerm(a), showTerm(b))
		}
		if is(c, a) {
			met["below"]++
			if !is(c, top) {
				t.Fatal("not below what is above", showTerm(c), showTerm(a), showTerm(top))
			}
		}
		join, e := logic.Join(s, a, b)
		if e != api.OK || !is(a, join) || !is(b, join) || !is(join, top) {
			t.Fatal("not the least one above", e, showTerm(join), showTerm(a), showTerm(b), showTerm(top))
		}
		other, e := logic.Join(s, a, c)
		switch e {
		case api.OK:
			met["join"]++
			if !is(a, other) || !is(c, other) {
				t.Fatal("not above", showTerm(other), showTerm(a), showTerm(c))
			}
			if is(a, top) && is(c, top) && !is(other, top) {
				t.Fatal("not the least one", showTerm(other), showTerm(a), showTerm(c), showTerm(top))
			}
		case api.ErrNone:
			met["none"]++
			if is(a, top) && is(c, top) {
				t.Fatal("there is one", showTerm(a), showTerm(c), showTerm(top))
			}
		default:
			t.Fatal(e)
		}
	}
	t.Log(met)
	if met["below"] < 2000 || met["join"] < 2000 || met["none"] < 2000 {
		t.Error("too few of some kind", met)
	}
}
