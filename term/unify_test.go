package term_test

import (
	"math/rand"
	"slices"
	"testing"

	"swingle/api"
	"swingle/term"
)

// P1.4: matches, with a binding for each variable of p and for no other one.
func TestMatch(t *testing.T) {
	for i, x := range []struct {
		p, v api.Term
		want []api.TermBind
	}{
		{cons(v(0), v(1)), cons(z(), null()), binds(bind(0, z()), bind(1, null()))},
		{cons(v(1), v(0)), cons(z(), null()), binds(bind(0, null()), bind(1, z()))},
		{cons(v(0), v(0)), cons(v(3), v(3)), binds(bind(0, v(3)))},
		{cons(v(0), v(0)), cons(cons(z(), v(0)), cons(z(), v(0))), binds(bind(0, cons(z(), v(0))))},
		{v(0), v(0), binds(bind(0, v(0)))},
		{cons(v(0), v(1)), cons(v(1), v(0)), binds(bind(0, v(1)), bind(1, v(0)))},
		{v(0), s(v(0)), binds(bind(0, s(v(0))))},
		{z(), z(), nil},
		{num(-7), num(-7), nil},
		{part(v(2)), part(num(1)), binds(bind(2, num(1)))},
		{v(19), part(), binds(bind(19, part()))},
	} {
		if l, e := term.Match(sig(), x.p, x.v); e != api.OK || !sameList(l, x.want) {
			t.Error(i, l, e)
		}
	}
}

// P1.4: no match, and what is no value.
func TestMatchNone(t *testing.T) {
	for i, x := range []struct {
		p, v api.Term
		want api.Errno
	}{
		{cons(v(0), v(0)), cons(z(), null()), api.ErrNone},
		{cons(v(0), v(0)), cons(v(0), v(1)), api.ErrNone},
		{z(), v(0), api.ErrNone},
		{s(z()), s(v(0)), api.ErrNone},
		{z(), null(), api.ErrNone},
		{num(5), num(6), api.ErrNone},
		{num(2), z(), api.ErrNone},
		{part(), part(z()), api.ErrNone},
		{part(v(0)), part(), api.ErrNone},
		{node(api.TermFun, 1), z(), api.ErrArg},
		{v(0), node(api.TermFun, 1), api.ErrArg},
		{z(), node(api.TermOr, 0, z(), z()), api.ErrArg},
		{v(20), z(), api.ErrArg},
		{z(), api.Term{}, api.ErrArg},
	} {
		if l, e := term.Match(sig(), x.p, x.v); e != x.want || len(l) > 0 {
			t.Error(i, l, e)
		}
	}
	if l, e := term.Match(api.TermSig{}, z(), z()); e != api.ErrArg || len(l) > 0 {
		t.Error(l, e)
	}
}

// P1.4: with the match put in, p is v; if there is none, nothing does it.
func TestMatchPut(t *testing.T) {
	r := rand.New(rand.NewSource(3))
	small := []api.Term{num(0), num(1), z(), null(), part(), v(0), v(1)}
	none := 0
	for range 3000 {
		p, value := randomValue(r, 3, 2), randomValue(r, 3, 2)
		if r.Intn(2) == 0 {
			value = put(p, binds(bind(0, small[r.Intn(7)]), bind(1, small[r.Intn(7)])))
		}
		l, e := term.Match(sig(), p, value)
		if e == api.OK {
			vars, _ := term.Vars(sig(), p)
			if got, e := term.Subst(sig(), p, l); e != api.OK || !same(got, value) || len(l) != len(vars) {
				t.Fatal(p, value, l)
			}
			continue
		}
		none++
		for _, a := range small {
			for _, b := range small {
				if same(put(p, binds(bind(0, a), bind(1, b))), value) {
					t.Fatal(p, value, a, b)
				}
			}
		}
	}
	if none < 100 || none > 2900 {
		t.Error(none)
	}
}

// P1.5: unifiers, and which variable is bound.
func TestUnify(t *testing.T) {
	for i, x := range []struct {
		a, b api.Term
		want []api.TermBind
	}{
		{cons(v(0), v(1)), cons(v(1), null()), binds(bind(0, null()), bind(1, null()))},
		{v(3), v(1), binds(bind(3, v(1)))},
		{v(1), v(3), binds(bind(3, v(1)))},
		{v(3), v(3), nil},
		{z(), z(), nil},
		{cons(v(0), s(v(0))), cons(v(0), s(v(0))), nil},
		{cons(v(2), v(3)), cons(v(3), s(v(1))), binds(bind(2, s(v(1))), bind(3, s(v(1))))},
		{part(v(0)), part(num(3)), binds(bind(0, num(3)))},
		{v(0), part(), binds(bind(0, part()))},
		// Of many variables that are made equal the least one stays, in whatever order they come.
		{four(v(5), v(4), v(3), v(2)), four(v(4), v(3), v(2), v(6)), binds(bind(3, v(2)), bind(4, v(2)), bind(5, v(2)), bind(6, v(2)))},
		{four(v(9), v(8), v(8), v(1)), four(v(8), v(7), v(1), v(1)), binds(bind(7, v(1)), bind(8, v(1)), bind(9, v(1)))},
		// What they are bound to has all bindings put in.
		{four(v(4), v(3), v(2), v(1)), four(s(v(3)), s(v(2)), s(v(1)), z()), binds(bind(1, z()), bind(2, s(z())), bind(3, s(s(z()))), bind(4, s(s(s(z())))))},
		{four(v(1), v(2), v(3), v(1)), four(s(v(4)), s(v(5)), v(2), v(2)), binds(bind(1, s(v(4))), bind(2, s(v(4))), bind(3, s(v(4))), bind(5, v(4)))},
		{cons(v(0), cons(v(7), v(0))), cons(s(v(8)), cons(v(8), s(z()))), binds(bind(0, s(z())), bind(7, z()), bind(8, z()))},
	} {
		if l, e := term.Unify(sig(), x.a, x.b); e != api.OK || !sameList(l, x.want) {
			t.Error(i, l, e)
		}
		if l, e := term.Unify(sig(), x.b, x.a); e != api.OK || !sameList(l, x.want) {
			t.Error(i, l, e)
		}
	}
}

// P1.5: no unifier, and what is no value.
func TestUnifyNone(t *testing.T) {
	for i, x := range []struct {
		a, b api.Term
		want api.Errno
	}{
		{v(0), s(v(0)), api.ErrNone},
		{cons(v(0), v(1)), cons(s(v(1)), s(v(0))), api.ErrNone},
		{cons(v(0), cons(v(1), v(0))), cons(s(v(1)), cons(s(v(2)), v(2))), api.ErrNone},
		{cons(v(0), v(1)), cons(v(1), s(v(0))), api.ErrNone},
		{z(), null(), api.ErrNone},
		{cons(v(0), v(0)), cons(z(), null()), api.ErrNone},
		{num(5), num(6), api.ErrNone},
		{num(2), z(), api.ErrNone},
		{part(), part(z()), api.ErrNone},
		{s(z()), z(), api.ErrNone},
		{node(api.TermFun, 1), null(), api.ErrArg},
		{null(), node(api.TermFun, 1), api.ErrArg},
		{z(), let(0, z(), z()), api.ErrArg},
		{z(), api.Term{}, api.ErrArg},
		{v(20), z(), api.ErrArg},
	} {
		if l, e := term.Unify(sig(), x.a, x.b); e != x.want || len(l) > 0 {
			t.Error(i, l, e)
		}
	}
	if l, e := term.Unify(api.TermSig{}, z(), z()); e != api.ErrArg || len(l) > 0 {
		t.Error(l, e)
	}
}

// chain returns two values that make each of some variables four of the next one, and end in a pair.
func chain(from, to int, a, b api.Term) (api.Term, api.Term) {
	for n := from; n < to; n++ {
		a, b = cons(v(n), a), cons(four(v(n+1), v(n+1), v(n+1), v(n+1)), b)
	}
	return a, b
}

// P1.5: ErrLong for a Term that would not be formed, by its depth, or its nodes; ErrNone comes before.
func TestUnifyLong(t *testing.T) {
	eleven := four(z(), z(), z(), cons(z(), cons(z(), cons(z(), z()))))
	for i, x := range []struct {
		a, b api.Term
		want api.Errno
	}{
		{cons(v(0), v(1)), cons(tower(5, v(1)), tower(6, z())), api.OK},
		{cons(v(0), v(1)), cons(tower(5, v(1)), tower(7, z())), api.ErrLong},
		{cons(v(0), v(1)), cons(four(v(1), v(1), v(1), cons(z(), cons(z(), s(z())))), eleven), api.OK},
		{cons(v(0), v(1)), cons(four(v(1), v(1), v(1), cons(z(), cons(z(), s(s(z()))))), eleven), api.ErrLong},
		{cons(cons(v(0), v(1)), z()), cons(cons(tower(5, v(1)), tower(7, z())), null()), api.ErrNone},
		{cons(z(), cons(v(0), v(1))), cons(null(), cons(tower(5, v(1)), tower(7, z()))), api.ErrNone},
	} {
		l, e := term.Unify(sig(), x.a, x.b)
		if e != x.want || e != api.OK && len(l) > 0 {
			t.Error(i, l, e)
		}
	}
	a, b := chain(0, 6, z(), z())
	if l, e := term.Unify(sig(), a, b); e != api.ErrLong || len(l) > 0 {
		t.Error(l, e)
	}
	a, b = chain(0, 6, z(), null())
	if l, e := term.Unify(sig(), a, b); e != api.ErrNone || len(l) > 0 {
		t.Error(l, e)
	}
	a, b = chain(0, 6, v(6), s(v(0)))
	if l, e := term.Unify(sig(), a, b); e != api.ErrNone || len(l) > 0 {
		t.Error(l, e)
	}
	a, b = chain(0, 3, v(0), v(10))
	a, b = chain(10, 13, a, b)
	if l, e := term.Unify(sig(), a, b); e != api.ErrLong || len(l) > 0 {
		t.Error(l, e)
	}
}

// P1.5: only the Terms of the unifier must be formed, not what both values become.
func TestUnifyTermsAlone(t *testing.T) {
	big := full(3, z())
	a, b := four(v(0), v(0), v(0), v(0)), four(v(1), v(1), v(1), big)
	if l, e := term.Unify(sig(), a, b); e != api.OK || !sameList(l, binds(bind(0, big), bind(1, big))) {
		t.Error(l, e)
	}
}

// checkUnifier fails if a list is not a unifier as it must be.
func checkUnifier(t *testing.T, a, b api.Term, l []api.TermBind) {
	t.Helper()
	if !same(put(a, l), put(b, l)) {
		t.Fatal("not the same:", a, b, l)
	}
	for i, x := range l {
		if i > 0 && l[i-1].Var >= x.Var || x.Term.Op == api.TermVar && x.Term.N >= x.Var {
			t.Fatal("order:", a, b, l)
		}
		if !same(put(x.Term, l), x.Term) {
			t.Fatal("bound variables stand in Terms:", a, b, l)
		}
	}
}

// P1.5: what was made to have a unifier has one, of which that is a special case.
func TestUnifyMostGeneral(t *testing.T) {
	r := rand.New(rand.NewSource(4))
	kinds := [2]int{}
	for range 4000 {
		var proposal []api.TermBind
		for n := range 6 {
			proposal = append(proposal, bind(n, randomValue(r, 2, 0)))
		}
		a, b := randomValue(r, 3, 6), randomValue(r, 3, 6)
		solved := same(put(a, proposal), put(b, proposal))
		if !solved && r.Intn(2) == 0 { // b is a, with variables where the proposal has the same
			b = loosen(r, put(a, proposal), proposal)
			solved = true
		}
		l, e := term.Unify(sig(), a, b)
		if solved && e != api.OK {
			t.Fatal(a, b, proposal, e)
		}
		if e != api.OK {
			kinds[0]++
			continue
		}
		kinds[1]++
		checkUnifier(t, a, b, l)
		if !solved {
			continue
		}
		for _, x := range l {
			if !same(put(v(x.Var), proposal), put(x.Term, proposal)) {
				t.Fatal("not a special case:", a, b, l, proposal)
			}
		}
	}
	if slices.Min(kinds[:]) < 200 {
		t.Error(kinds)
	}
}

// loosen puts variables in place of some parts that a list has as Terms.
func loosen(r *rand.Rand, t api.Term, l []api.TermBind) api.Term {
	for _, b := range l {
		if same(b.Term, t) && r.Intn(3) > 0 {
			return v(b.Var)
		}
	}
	c := api.Term{Op: t.Op, N: t.N}
	for _, k := range t.Kids {
		c.Kids = append(c.Kids, loosen(r, k, l))
	}
	return c
}

// P1.5: if there is no unifier, nothing of a small set makes both the same.
func TestUnifyNoneAtAll(t *testing.T) {
	r := rand.New(rand.NewSource(5))
	var ground []api.Term
	for range 40 {
		ground = append(ground, randomValue(r, 2, 0))
	}
	none := 0
	for range 400 {
		a, b := randomValue(r, 3, 2), randomValue(r, 3, 2)
		if _, e := term.Unify(sig(), a, b); e != api.ErrNone {
			continue
		}
		none++
		for _, x := range ground {
			for _, y := range ground {
				if l := binds(bind(0, x), bind(1, y)); same(put(a, l), put(b, l)) {
					t.Fatal(a, b, l)
				}
			}
		}
	}
	if none < 50 {
		t.Error(none)
	}
}
