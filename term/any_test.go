package term_test

import (
	"math"
	"math/rand"
	"testing"

	"swingle/api"
	"swingle/term"
)

// endless returns an expression that leads back to itself.
func endless(op api.TermOp, n, wide int) api.Term {
	t := api.Term{Op: op, N: n, Kids: make([]api.Term, wide)}
	for i := range t.Kids {
		t.Kids[i] = t
	}
	return t
}

// checkRefused fails if one of the functions takes an expression that is not formed, or returns more than ErrArg.
func checkRefused(t *testing.T, what any, g api.TermSig, x api.Term) {
	t.Helper()
	refused := func(name string, e api.Errno, zero bool) {
		if e != api.ErrArg || !zero {
			t.Error(what, name, e, zero)
		}
	}
	refused("Check", term.Check(g, x), true)
	value, ground, e := term.IsValue(g, x)
	refused("IsValue", e, !value && !ground)
	pattern, e := term.IsPattern(g, x)
	refused("IsPattern", e, !pattern)
	vars, e := term.Vars(g, x)
	refused("Vars", e, len(vars) == 0)
	order, e := term.Order(g, x)
	refused("Order", e, same(order, api.Term{}))
	made, e := term.Subst(g, x, nil)
	refused("Subst", e, same(made, api.Term{}))
	made, e = term.Subst(g, v(0), binds(bind(0, x)))
	refused("Subst", e, same(made, api.Term{}))
	for _, pair := range [][2]api.Term{{x, z()}, {z(), x}, {x, x}} {
		is, e := term.Variant(g, pair[0], pair[1])
		refused("Variant", e, !is)
		l, e := term.Match(g, pair[0], pair[1])
		refused("Match", e, len(l) == 0)
		l, e = term.Unify(g, pair[0], pair[1])
		refused("Unify", e, len(l) == 0)
		n, e := term.Compare(g, pair[0], pair[1])
		refused("Compare", e, n == 0)
	}
}

// P0.11: expressions that are not formed, however large, and signatures.
func TestAnyTerm(t *testing.T) {
	for i, x := range []api.Term{
		{}, endless(api.TermCon, 3, 1), endless(api.TermCon, 5, 2), endless(api.TermCon, 6, 4), endless(api.TermOr, 0, 2), endless(api.TermLet, 0, 2), endless(api.TermPart, 0, 1),
		{Op: api.TermCon, N: 5, Kids: make([]api.Term, 1<<22)}, {Op: api.TermVar, Kids: make([]api.Term, 1<<22)},
		node(api.TermBot, 0), node(math.MinInt, math.MinInt), node(math.MaxInt, math.MaxInt, z()),
		tower(100000, z()), full(12, z()), cons(z(), endless(api.TermFun, 0, 2)),
	} {
		checkRefused(t, i, sig(), x)
	}
	for i, g := range []api.TermSig{{}, {Cons: truths()[:1]}, {Cons: make([]api.TermName, 1<<20), Funs: make([]api.TermName, 1<<20)}} {
		checkRefused(t, i, g, v(0))
	}
}

// P0.11: whatever is handed in, formed or not, what comes back is as it must be.
func TestAnyArguments(t *testing.T) {
	r := rand.New(rand.NewSource(7))
	numbers := []int{0, 0, 0, 1, 2, 3, 5, 6, 19, 20, -1, math.MinInt, math.MaxInt}
	var wild func(deep int) api.Term
	wild = func(deep int) api.Term {
		x := api.Term{Op: api.TermOp(r.Intn(19) - 1), N: numbers[r.Intn(len(numbers))]}
		for range r.Intn(4) {
			if deep > 0 {
				x.Kids = append(x.Kids, wild(deep-1))
			}
		}
		return x
	}
	for i := range 20000 {
		x := wild(3)
		if i%2 == 0 {
			x = randomTerm(r, 4, 20)
		}
		y := randomTerm(r, 4, 20)
		if term.Check(sig(), x) != api.OK {
			checkRefused(t, x, sig(), x)
			continue
		}
		made, e := term.Subst(sig(), x, binds(bind(0, y), bind(numbers[r.Intn(len(numbers))], y)))
		if (e == api.OK) != (term.Check(sig(), made) == api.OK) || e != api.OK && !same(made, api.Term{}) {
			t.Fatal(x, y, made, e)
		}
		value, _, _ := term.IsValue(sig(), x)
		both, _, _ := term.IsValue(sig(), y)
		l, e := term.Unify(sig(), x, y)
		if (e == api.ErrArg) != !(value && both) || e != api.OK && len(l) > 0 {
			t.Fatal(x, y, l, e)
		}
	}
}

// R4, R8: arguments stay as they are, results share no memory with them or with each other, and come again.
func TestMemory(t *testing.T) {
	big := cons(s(v(3)), cons(z(), v(4)))
	x := cons(v(0), cons(v(0), let(3, s(v(0)), cons(v(0), v(3)))))
	l := binds(bind(0, big), bind(5, s(z())))
	keepX, keepBig := copyOf(x), copyOf(big)
	made, e := term.Subst(sig(), x, l)
	again, f := term.Subst(sig(), x, l)
	if e != api.OK || f != api.OK || !same(made, again) {
		t.Fatal(e, f)
	}
	checkApart(t, "Subst", made, again, x, big, l[1].Term)
	kept, _ := term.Subst(sig(), x, nil)
	ordered, _ := term.Order(sig(), x)
	checkApart(t, "Subst, Order", kept, ordered, x)

	p, value := cons(v(0), cons(v(1), v(0))), cons(big, cons(big, big))
	match, e := term.Match(sig(), p, value)
	if e != api.OK || len(match) != 2 {
		t.Fatal(match, e)
	}
	checkApart(t, "Match", match[0].Term, match[1].Term, big)

	unifier, e := term.Unify(sig(), cons(v(0), cons(v(1), v(2))), cons(big, cons(s(v(0)), cons(v(0), v(0)))))
	if e != api.OK || len(unifier) != 3 {
		t.Fatal(unifier, e)
	}
	checkApart(t, "Unify", unifier[0].Term, unifier[1].Term, unifier[2].Term, big)
	if !same(x, keepX) || !same(big, keepBig) {
		t.Error("an argument was changed")
	}
}

// R3: nil and empty lists are the same.
func TestEmptyLists(t *testing.T) {
	empty := api.Term{Op: api.TermCon, N: 2, Kids: []api.Term{}}
	if n, e := term.Compare(sig(), empty, z()); e != api.OK || n != 0 {
		t.Error(n, e)
	}
	if l, e := term.Unify(sig(), empty, z()); e != api.OK || len(l) > 0 {
		t.Error(l, e)
	}
	if l, e := term.Match(sig(), empty, z()); e != api.OK || len(l) > 0 {
		t.Error(l, e)
	}
	if is, e := term.Variant(sig(), empty, z()); e != api.OK || !is {
		t.Error(is, e)
	}
	if pattern, e := term.IsPattern(sig(), empty); e != api.OK || !pattern {
		t.Error(pattern, e)
	}
	if x, e := term.Subst(sig(), empty, []api.TermBind{}); e != api.OK || !same(x, z()) {
		t.Error(x, e)
	}
}
