package term_test

import (
	"math/rand"
	"slices"
	"strings"
	"testing"

	"swingle/api"
	"swingle/term"
)

// P1.2: the free variables, increasing, each once.
func TestVars(t *testing.T) {
	for i, x := range []struct {
		t    api.Term
		want []int
	}{
		{let(0, v(1), cons(v(0), v(2))), []int{1, 2}},
		{let(0, v(0), v(0)), []int{0}},
		{let(0, z(), v(0)), nil},
		{let(0, v(0), z()), []int{0}},
		{cons(let(0, z(), v(0)), v(0)), []int{0}},
		{let(0, z(), let(1, v(0), cons(v(0), v(1)))), nil},
		{let(0, z(), let(1, v(1), cons(v(0), v(1)))), []int{1}},
		{let(0, let(0, z(), v(0)), let(0, v(0), v(0))), nil},
		{cons(v(19), cons(v(3), cons(v(19), v(0)))), []int{0, 3, 19}},
		{z(), nil},
		{node(api.TermAdd, 0, v(4), v(4)), []int{4}},
	} {
		if l, e := term.Vars(sig(), x.t); e != api.OK || !slices.Equal(l, x.want) {
			t.Error(i, l, e)
		}
	}
	if l, e := term.Vars(sig(), v(20)); e != api.ErrArg || len(l) > 0 {
		t.Error(l, e)
	}
	if l, e := term.Vars(api.TermSig{}, v(0)); e != api.ErrArg || len(l) > 0 {
		t.Error(l, e)
	}
}

type putting struct {
	t    api.Term
	l    []api.TermBind
	want api.Term
}

func checkPutting(t *testing.T, table []putting) {
	t.Helper()
	for i, x := range table {
		mustCheck(t, x.t)
		if y, e := term.Subst(sig(), x.t, x.l); e != api.OK || !same(y, x.want) {
			t.Error(i, y, e)
		}
	}
}

// P1.2: what is put in, and where it is not.
func TestSubst(t *testing.T) {
	checkPutting(t, []putting{
		{cons(v(0), v(1)), binds(bind(0, v(1)), bind(1, v(0))), cons(v(1), v(0))},
		{cons(v(0), v(0)), binds(bind(0, s(v(0)))), cons(s(v(0)), s(v(0)))},
		{v(0), nil, v(0)},
		{v(0), binds(), v(0)},
		{v(0), binds(bind(1, z())), v(0)},
		{v(19), binds(bind(19, node(api.TermFun, 1))), node(api.TermFun, 1)},
		{let(0, v(0), v(0)), binds(bind(0, z())), let(0, z(), v(0))},
		{let(0, z(), let(1, v(0), v(1))), binds(bind(0, num(1)), bind(1, num(2))), let(0, z(), let(1, v(0), v(1)))},
		{cons(let(0, z(), v(0)), v(0)), binds(bind(0, null())), cons(let(0, z(), v(0)), null())},
		{let(0, z(), let(0, v(0), v(0))), binds(bind(0, num(1))), let(0, z(), let(0, v(0), v(0)))},
	})
}

// P1.2: variables that would be caught are chosen anew, and no others.
func TestSubstCaught(t *testing.T) {
	checkPutting(t, []putting{
		// The chapter's example: v3 is the least variable that stands nowhere.
		{let(0, v(1), cons(v(0), v(2))), binds(bind(2, s(v(0)))), let(3, v(1), cons(v(3), s(v(0))))},
		// The variable is not free in the second Kid, or what is put in is not there.
		{let(0, z(), v(1)), binds(bind(3, v(0))), let(0, z(), v(1))},
		{let(0, v(1), v(0)), binds(bind(1, v(0))), let(0, v(0), v(0))},
		{let(0, z(), let(1, z(), v(1))), binds(bind(1, v(0))), let(0, z(), let(1, z(), v(1)))},
		// The TermLet's variable is bound in the list, too, and stands in its own Term.
		{let(0, z(), v(0)), binds(bind(0, v(0))), let(0, z(), v(0))},
		{let(0, v(0), cons(v(0), v(1))), binds(bind(0, v(5)), bind(1, v(0))), let(2, v(5), cons(v(2), v(0)))},
		// It is bound in the Term, and not free there.
		{let(0, z(), v(1)), binds(bind(1, let(0, z(), v(0)))), let(0, z(), let(0, z(), v(0)))},
		{let(0, z(), v(1)), binds(bind(1, let(0, v(0), v(0)))), let(2, z(), let(0, v(0), v(0)))},
		// What is bound in the list counts, and what stands anywhere in its Terms.
		{let(0, z(), v(1)), binds(bind(1, v(0)), bind(2, v(4))), let(3, z(), v(0))},
		{let(0, z(), v(1)), binds(bind(1, let(2, v(3), v(0)))), let(4, z(), let(2, v(3), v(0)))},
		// What stands in the TermLet counts: in its first Kid, and bound within it.
		{let(0, v(2), v(1)), binds(bind(1, v(0))), let(3, v(2), v(0))},
		{let(0, z(), cons(let(2, z(), z()), v(1))), binds(bind(1, v(0))), let(3, z(), cons(let(2, z(), z()), v(0)))},
		// What stands around the TermLet alone does not.
		{cons(v(2), let(0, z(), v(1))), binds(bind(1, v(0))), cons(v(2), let(2, z(), v(0)))},
		{let(2, z(), let(0, z(), v(1))), binds(bind(1, v(0))), let(2, z(), let(2, z(), v(0)))},
	})
}

// P1.2: a TermLet that stands in another one.
func TestSubstNested(t *testing.T) {
	inner := let(1, v(0), cons(v(0), cons(v(1), v(2))))
	checkPutting(t, []putting{
		// Each chooses anew, the outer one first.
		{let(0, z(), inner), binds(bind(2, cons(v(0), v(1)))), let(3, z(), let(4, v(3), cons(v(3), cons(v(4), cons(v(0), v(1))))))},
		// The outer one alone: an inner one of the same variable hides it.
		{let(0, z(), cons(v(1), let(0, v(0), v(0)))), binds(bind(1, v(0))), let(2, z(), cons(v(0), let(0, v(2), v(0))))},
		// The inner one alone.
		{let(0, z(), let(1, v(0), cons(v(1), v(2)))), binds(bind(2, v(1))), let(0, z(), let(3, v(0), cons(v(3), v(1))))},
		// The whole list counts within a TermLet, too, also a binding that is not put in there.
		{let(0, z(), let(1, z(), cons(v(1), v(2)))), binds(bind(0, v(3)), bind(2, v(1))), let(0, z(), let(4, z(), cons(v(4), v(1))))},
	})
}

// P1.2: what is no binding list, and in which order errors come.
func TestSubstWrong(t *testing.T) {
	long := []api.TermBind{}
	for n := range api.TermVars {
		long = append(long, bind(n, z()))
	}
	if y, e := term.Subst(sig(), cons(v(0), v(19)), long); e != api.OK || !same(y, cons(z(), z())) {
		t.Error(y, e)
	}
	big := cons(full(3, v(0)), full(3, v(0)))
	for i, x := range []struct {
		t api.Term
		l []api.TermBind
	}{
		{api.Term{}, nil},
		{v(0), append(slices.Clone(long), bind(20, z()))},
		{v(0), append(slices.Clone(long), long...)},
		{v(0), binds(bind(-1, z()))},
		{v(0), binds(bind(20, z()))},
		{v(0), binds(bind(0, z()), bind(0, z()))},
		{v(0), binds(bind(1, z()), bind(0, z()))},
		{v(0), binds(bind(1, api.Term{}))},
		{v(0), binds(bind(1, node(api.TermBot, 0)))},
		{big, binds(bind(0, full(3, z())), bind(1, v(20)))},
	} {
		if y, e := term.Subst(sig(), x.t, x.l); e != api.ErrArg || !same(y, api.Term{}) {
			t.Error(i, y, e)
		}
	}
	if y, e := term.Subst(api.TermSig{}, v(0), nil); e != api.ErrArg || !same(y, api.Term{}) {
		t.Error(y, e)
	}
}

// P1.2: ErrLong for what would not be formed, by its nodes, its depth, or a variable that there is not.
func TestSubstLong(t *testing.T) {
	wide := func(leaf api.Term) api.Term {
		return cons(full(4, z()), four(z(), z(), z(), leaf))
	}
	everywhere := []api.TermBind{bind(1, v(0))}
	for n := 2; n < api.TermVars; n++ {
		everywhere = append(everywhere, bind(n, z()))
	}
	for i, x := range []struct {
		t  api.Term
		l  []api.TermBind
		ok bool
	}{
		{wide(v(0)), binds(bind(0, s(s(z())))), true},
		{wide(v(0)), binds(bind(0, s(s(s(z()))))), true},
		{wide(v(0)), binds(bind(0, s(s(s(s(z())))))), false},
		{tower(6, v(0)), binds(bind(0, tower(5, z()))), true},
		{tower(6, v(0)), binds(bind(0, tower(6, z()))), false},
		{full(5-1, v(0)), binds(bind(0, cons(z(), z()))), false},
		{let(0, z(), v(1)), everywhere[:18], true},
		{let(0, z(), v(1)), everywhere, false},
		{let(0, v(19), v(1)), everywhere[:18], false},
	} {
		y, e := term.Subst(sig(), x.t, x.l)
		if x.ok && (e != api.OK || term.Check(sig(), y) != api.OK) {
			t.Error(i, y, e)
		}
		if !x.ok && (e != api.ErrLong || !same(y, api.Term{})) {
			t.Error(i, y, e)
		}
	}
	if y, e := term.Subst(sig(), let(0, z(), v(1)), everywhere[:18]); e != api.OK || !same(y, let(19, z(), v(0))) {
		t.Error(y, e)
	}
}

// P1.2: without names of what is bound, putting in is mere replacing; so nothing becomes bound.
func TestSubstNameless(t *testing.T) {
	r := rand.New(rand.NewSource(1))
	done := 0
	for range 4000 {
		x := randomTerm(r, 4, 4)
		l := randomList(r, 4, func() api.Term { return randomTerm(r, 2, 4) })
		y, e := term.Subst(sig(), x, l)
		if e == api.ErrLong {
			continue
		}
		done++
		want := nameless(x, nil, func(n int) string {
			for _, b := range l {
				if b.Var == n {
					return nameless(b.Term, nil, named)
				}
			}
			return named(n)
		})
		if got := nameless(y, nil, named); got != want {
			t.Fatal(x, l, y)
		}
	}
	if done < 3000 {
		t.Error(done)
	}
}

// P1.3: the numbers of variables, as they come.
func TestOrder(t *testing.T) {
	for i, x := range []struct{ t, want api.Term }{
		{cons(v(5), let(5, v(2), v(5))), cons(v(0), let(1, v(2), v(1)))},
		{let(7, v(7), v(7)), let(0, v(1), v(0))},
		{let(7, v(3), cons(v(3), v(7))), let(0, v(1), cons(v(1), v(0)))},
		{let(7, z(), v(3)), let(0, z(), v(1))},
		{cons(let(4, z(), v(4)), let(4, z(), v(4))), cons(let(0, z(), v(0)), let(1, z(), v(1)))},
		{let(4, z(), let(4, v(4), v(4))), let(0, z(), let(1, v(0), v(1)))},
		{cons(let(4, z(), v(9)), v(9)), cons(let(0, z(), v(1)), v(1))},
		{cons(let(4, z(), z()), v(4)), cons(let(0, z(), z()), v(1))},
		{let(1, let(2, v(1), v(2)), v(2)), let(0, let(1, v(2), v(1)), v(3))},
		{cons(v(9), cons(v(3), v(9))), cons(v(0), cons(v(1), v(0)))},
		{num(5), num(5)},
		{part(v(19)), part(v(0))},
	} {
		if y, e := term.Order(sig(), x.t); e != api.OK || !same(y, x.want) {
			t.Error(i, y, e)
		}
	}
	if y, e := term.Order(sig(), node(api.TermBot, 0)); e != api.ErrArg || !same(y, api.Term{}) {
		t.Error(y, e)
	}
	if y, e := term.Order(api.TermSig{}, z()); e != api.ErrArg || !same(y, api.Term{}) {
		t.Error(y, e)
	}
}

// many returns an expression with so many variables: some that are free, and some TermLets' own ones.
func many(free, lets int) api.Term {
	var parts []api.Term
	for i := range 20 {
		parts = append(parts, v(i%free))
	}
	for len(parts) > 1 {
		whole := cons(parts[0], parts[1])
		if lets > 0 {
			whole = let(19, parts[0], parts[1])
			lets--
		}
		parts = append(parts[2:], whole)
	}
	return parts[0]
}

// P1.3: just as many variables as there are, and one more; Variant has no such limit.
func TestOrderLong(t *testing.T) {
	for _, x := range []struct {
		free, lets int
		want       api.Errno
	}{{20, 0, api.OK}, {19, 1, api.OK}, {19, 2, api.ErrLong}, {10, 10, api.OK}, {10, 11, api.ErrLong}, {1, 19, api.OK}, {2, 19, api.ErrLong}, {19, 19, api.ErrLong}} {
		many := many(x.free, x.lets)
		mustCheck(t, many)
		y, e := term.Order(sig(), many)
		if e != x.want || e == api.OK && term.Check(sig(), y) != api.OK || e != api.OK && !same(y, api.Term{}) {
			t.Error(x, y, e)
		}
		if is, e := term.Variant(sig(), many, many); e != api.OK || !is {
			t.Error(x, is, e)
		}
	}
	for lets := range 20 {
		if is, e := term.Variant(sig(), many(19, lets), many(18, lets)); e != api.OK || is {
			t.Error(lets, is, e)
		}
	}
}

// P1.3: which expressions are variants.
func TestVariant(t *testing.T) {
	a := cons(v(5), let(5, v(2), v(5)))
	for i, x := range []struct {
		a, b api.Term
		want bool
	}{
		{a, cons(v(0), let(1, v(3), v(1))), true},
		{a, cons(v(0), let(1, v(0), v(1))), false},
		{a, cons(v(0), let(1, v(3), v(3))), false},
		{cons(v(0), v(1)), cons(v(1), v(0)), true},
		{cons(v(0), v(0)), cons(v(0), v(1)), false},
		{cons(v(0), v(1)), cons(v(0), v(0)), false},
		{let(0, v(0), v(0)), let(1, v(0), v(1)), true},
		{let(0, z(), v(1)), let(1, z(), v(1)), false},
		{let(0, z(), let(1, z(), cons(v(0), v(1)))), let(1, z(), let(0, z(), cons(v(1), v(0)))), true},
		{let(0, z(), let(1, z(), cons(v(0), v(1)))), let(1, z(), let(0, z(), cons(v(0), v(1)))), false},
		{num(5), num(5), true},
		{num(5), num(6), false},
		{z(), null(), false},
		{part(), part(v(0)), false},
	} {
		if is, e := term.Variant(sig(), x.a, x.b); e != api.OK || is != x.want {
			t.Error(i, is, e)
		}
		if is, e := term.Variant(sig(), x.b, x.a); e != api.OK || is != x.want {
			t.Error(i, is, e)
		}
	}
	for i, x := range [][2]api.Term{{z(), {}}, {{}, z()}, {v(20), v(20)}} {
		if is, e := term.Variant(sig(), x[0], x[1]); e != api.ErrArg || is {
			t.Error(i, is, e)
		}
	}
	if is, e := term.Variant(api.TermSig{}, z(), z()); e != api.ErrArg || is {
		t.Error(is, e)
	}
}

// inOrderNameless writes an expression without names at all.
func inOrderNameless(t api.Term) string {
	var met []int
	return nameless(t, nil, func(n int) string {
		if !slices.Contains(met, n) {
			met = append(met, n)
		}
		return "free" + strings.Repeat("'", slices.Index(met, n))
	})
}

// P1.3: an expression in order is a variant that is in order; and variants are what is the same without names.
func TestOrderNameless(t *testing.T) {
	r := rand.New(rand.NewSource(2))
	pairs := 0
	for range 4000 {
		x := randomTerm(r, 3, 3)
		y, e := term.Order(sig(), x)
		if e != api.OK || inOrderNameless(x) != inOrderNameless(y) {
			t.Fatal(x, y, e)
		}
		if again, e := term.Order(sig(), y); e != api.OK || !same(again, y) {
			t.Fatal(x, y, again, e)
		}
		other := randomTerm(r, 3, 3)
		want := inOrderNameless(x) == inOrderNameless(other)
		if is, e := term.Variant(sig(), x, other); e != api.OK || is != want {
			t.Fatal(x, other, is, e)
		}
		if want && !same(x, other) {
			pairs++
		}
	}
	if pairs < 20 {
		t.Error(pairs)
	}
}
