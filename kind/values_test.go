package kind_test

import (
	"math/rand"
	"slices"
	"testing"

	"swingle/api"
	"swingle/kind"
	"swingle/term"
)

// value returns a ground value; it may be too large.
func (k *maker) value(deep int) api.Term {
	pick := k.Intn(6)
	switch {
	case pick < 2 || deep <= 1:
		return []api.Term{num(k.Intn(5)), con(k.Intn(2)), con(2), con(5), con(8)}[k.Intn(5)]
	case pick == 2 && len(k.Prog.Sig.Funs) > 0:
		fun := k.Intn(len(k.Prog.Sig.Funs))
		made := node(api.TermPart, fun)
		if args := k.Prog.Sig.Funs[fun].Args; args > 0 {
			for range k.Intn(args) {
				made.Kids = append(made.Kids, k.value(deep-1))
			}
			return made
		}
	}
	n := k.Intn(len(k.Prog.Sig.Cons))
	made := con(n)
	for range k.Prog.Sig.Cons[n].Args {
		made.Kids = append(made.Kids, k.value(deep-1))
	}
	return made
}

// P3.7: if a free variable becomes a ground value of a type that can be
// unified, the expression still has a type, of which the old one is an instance.
func TestValues(t *testing.T) {
	r := rand.New(rand.NewSource(7))
	checked := 0
	for range 2000 {
		m := randomModule(t, r)
		x := randomTerm(t, r, m)
		whole, free, e := kind.Infer(m, x)
		if e != api.OK || len(free) == 0 {
			continue
		}
		k := &maker{Rand: r, ReadModule: m}
		for range 8 {
			at := r.Intn(len(free))
			value := k.value(1 + r.Intn(3))
			ofValue, _, e := kind.Infer(m, value)
			put, f := term.Subst(m.Prog.Sig, x, []api.TermBind{{Var: freeOf(x)[at], Term: value}})
			if e != api.OK || f != api.OK {
				continue
			}
			q := newEquations(100)
			q.equal(free[at], replaced(ofValue, func(n int) api.KindType { return typeVar(n + 50) }))
			if !q.solve() {
				continue
			}
			became := q.now(whole)
			got, _, e := kind.Infer(m, put)
			if e == api.ErrLong {
				continue
			}
			if e != api.OK {
				t.Fatal(e, showTerm(x), showTerm(value), showModule(m))
			}
			i := newEquations(200)
			i.equal(replaced(got, func(n int) api.KindType { return typeVar(n + 200) }), replaced(became, standing))
			if !i.solve() {
				t.Fatal("no instance", show(m.Datas, became), show(m.Datas, got), showTerm(x), showTerm(value), showModule(m))
			}
			checked++
		}
	}
	t.Log(checked)
	if checked < 1000 {
		t.Error("too few", checked)
	}
}

// P3.7: the chapter's module.
func TestValuesOfLists(t *testing.T) {
	m := mustModule(t, lists)
	x := mustGoal(t, m, "app(x, y)")
	for _, c := range []struct {
		value       api.Term
		whole, free string
	}{
		{con(2), "List(?0)", "List(?0)"},
		{con(3, num(1), con(2)), "List(int)", "List(int)"},
		{con(3, node(api.TermPart, 3), con(2)), "List((?0 -> ?0) -> (?0 -> ?0))", "List((?0 -> ?0) -> (?0 -> ?0))"},
	} {
		put, e := term.Subst(m.Prog.Sig, x, []api.TermBind{{Var: 0, Term: c.value}})
		if e != api.OK {
			t.Fatal(e)
		}
		whole, free, e := kind.Infer(m, put)
		if e != api.OK || show(m.Datas, whole) != c.whole || showTypes(m.Datas, free) != c.free {
			t.Error(e, show(m.Datas, whole), showTypes(m.Datas, free), c.whole)
		}
	}
	// Each place of a value has a type of its own: the new type is more general than the old one with Nil.
	twice := mustGoal(t, mustModule(t, more), "Pair(x, x)")
	put, _ := term.Subst(mustModule(t, more).Prog.Sig, twice, []api.TermBind{{Var: 0, Term: con(2)}})
	checkInfer(t, mustModule(t, more), twice, inferRow{"Pair(x, x)", "Pair(?0, ?0)", "?0", "", api.OK})
	checkInfer(t, mustModule(t, more), put, inferRow{"Pair(Nil, Nil)", "Pair(List(?0), List(?1))", "", "", api.OK})
}

// P3.8: without one of its rules a module has types that are no less general; the order of rules does not matter.
func TestFewerRules(t *testing.T) {
	r := rand.New(rand.NewSource(8))
	checked, other := 0, 0
	for range 2000 {
		m := randomModule(t, r)
		types, e := kind.Types(m)
		if e == api.OK {
			checkFewer(t, m, types, &other)
			checked += len(m.Prog.Rules)
		}
		rules := slices.Clone(m.Prog.Rules)
		r.Shuffle(len(rules), func(i, j int) { rules[i], rules[j] = rules[j], rules[i] })
		shuffled := m
		shuffled.Prog.Rules = rules
		got, f := kind.Types(shuffled)
		if f != e || showTypes(m.Datas, got) != showTypes(m.Datas, types) {
			t.Fatal("in another order", e, f, showTypes(m.Datas, types), showTypes(m.Datas, got), showModule(m))
		}
		before, e := kind.Wrong(m)
		after, f := kind.Wrong(shuffled)
		if e != f || !slices.Equal(before, after) {
			t.Fatal("in another order", e, f, before, after, showModule(m))
		}
	}
	t.Log(checked, other)
	if checked < 1000 || other < 300 {
		t.Error("too few", checked, other)
	}
}

// checkFewer leaves out each rule, and counts where types become others.
func checkFewer(t *testing.T, m api.ReadModule, types []api.KindType, other *int) {
	t.Helper()
	for i := range m.Prog.Rules {
		fewer := m
		fewer.Prog.Rules = slices.Delete(slices.Clone(m.Prog.Rules), i, i+1)
		got, e := kind.Types(fewer)
		if e != api.OK {
			t.Fatal(e, i, showModule(m))
		}
		for f := range types {
			if _, e := kind.Match(m.Datas, got[f], types[f]); e != api.OK {
				t.Fatal("no instance", i, show(m.Datas, types[f]), show(m.Datas, got[f]), showModule(m))
			}
		}
		if showTypes(m.Datas, got) != showTypes(m.Datas, types) {
			*other++
		}
	}
}

// P3.8: the chapter's module.
func TestFewerRulesOfLists(t *testing.T) {
	m := mustModule(t, lists)
	all := m.Prog.Rules
	for i, want := range []string{
		"List(?0) -> (?1 -> List(?0)); List(?0) -> ?1; int; (?0 -> ?0) -> (?0 -> ?0)",
		"List(?0) -> (?1 -> ?1); List(?0) -> ?0; int; (?0 -> ?0) -> (?0 -> ?0)",
		"List(?0) -> (List(?0) -> List(?0)); ?0 -> ?1; int; (?0 -> ?0) -> (?0 -> ?0)",
		"List(?0) -> (List(?0) -> List(?0)); List(?0) -> ?0; ?0; (?0 -> ?0) -> (?0 -> ?0)",
		"List(?0) -> (List(?0) -> List(?0)); List(?0) -> ?0; int; ?0 -> (?1 -> ?2)",
	} {
		m.Prog.Rules = slices.Delete(slices.Clone(all), i, i+1)
		checkTypes(t, m, right("without a rule", want))
	}
	m.Prog.Rules = slices.Clone(all)
	slices.Reverse(m.Prog.Rules)
	checkTypes(t, m, right("backwards", "List(?0) -> (List(?0) -> List(?0)); List(?0) -> ?0; int; (?0 -> ?0) -> (?0 -> ?0)"))
}
