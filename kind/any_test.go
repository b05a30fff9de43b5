package kind_test

import (
	"math"
	"math/rand"
	"slices"
	"strconv"
	"testing"

	"swingle/api"
	"swingle/claims"
	"swingle/kind"
)

// results are those of all functions that take a module, as texts.
func results(m api.ReadModule, x api.Term, types []api.KindType) []string {
	groups, a := kind.Groups(m.Prog)
	principal, b := kind.Types(m)
	group, c := kind.Wrong(m)
	whole, free, d := kind.Infer(m, x)
	uses, e := kind.Uses(m, x)
	rule, f := kind.Accept(m, types)
	errors := each([]api.Errno{a, b, c, d, e, f}, func(e api.Errno) string { return strconv.Itoa(int(e)) })
	return append(errors, showGroups(groups), showTypes(m.Datas, principal), showGroups([][]int{group}), show(m.Datas, whole), showTypes(m.Datas, free), showUses(m, uses), strconv.Itoa(rule))
}

// refused fails if a function that takes modules takes one that is not formed, or returns more than ErrArg.
func refused(t *testing.T, what any, m api.ReadModule) {
	t.Helper()
	types, a := kind.Types(m)
	group, b := kind.Wrong(m)
	whole, free, c := kind.Infer(m, num(1))
	uses, d := kind.Uses(m, num(1))
	rule, e := kind.Accept(m, nil)
	rule2, f := kind.Accept(m, make([]api.KindType, min(len(m.Prog.Sig.Funs), 10)))
	if types != nil || group != nil || !sameType(whole, api.KindType{}) || free != nil || uses != nil || rule != 0 || rule2 != 0 {
		t.Error(what, "more than an error")
	}
	if !slices.Equal([]api.Errno{a, b, c, d, e, f}, slices.Repeat([]api.Errno{api.ErrArg}, 6)) {
		t.Error(what, a, b, c, d, e, f)
	}
}

// P3.2 to P3.6, P0.11: what is not formed is refused wherever it is handed over.
func TestNotFormed(t *testing.T) {
	datas := mustModule(t, more).Datas
	for i, bad := range badDatas(t) {
		unifier, e := kind.Unify(bad, integers(), integers())
		match, f := kind.Match(bad, integers(), integers())
		if unifier != nil || match != nil || e != api.ErrArg || f != api.ErrArg {
			t.Error(i, e, f)
		}
	}
	for i, bad := range badTypes() {
		for _, two := range [][2]api.KindType{{bad, integers()}, {integers(), bad}, {bad, bad}, {bad, typeVar(0)}, {typeVar(0), bad}} {
			unifier, e := kind.Unify(datas, two[0], two[1])
			match, f := kind.Match(datas, two[0], two[1])
			if unifier != nil || match != nil || e != api.ErrArg || f != api.ErrArg {
				t.Error(i, e, f)
			}
		}
		for _, source := range []string{"f = 1; g = 2;", "f = 1; g = 1 + True;"} {
			m := mustModule(t, more+source)
			for _, types := range [][]api.KindType{{bad, integers()}, {integers(), bad}, {bad, bad}} {
				if rule, e := kind.Accept(m, types); rule != 0 || e != api.ErrArg {
					t.Error(i, rule, e)
				}
			}
		}
	}
	for i, p := range badProgs(t) {
		if groups, e := kind.Groups(p); groups != nil || e != api.ErrArg {
			t.Error(i, groups, e)
		}
	}
	for i, m := range badModules(t) {
		refused(t, i, m)
	}
	refused(t, "nothing", api.ReadModule{})
	// Expressions.
	endless := node(api.TermOr, 0, num(1), num(1))
	endless.Kids[1] = endless
	for _, source := range []string{lists, lists + "wrong = 1 + True;"} {
		m := mustModule(t, source)
		for i, x := range []api.Term{{}, v(20), v(-1), num(1000001), con(4), con(3), con(2, num(1)), node(api.TermFun, 5), node(api.TermFun, 0), node(api.TermPart, 2), node(api.TermPart, 0, num(1), num(1)), node(api.TermBot, 0), node(api.TermOr, 1, num(1), num(1)), let(20, num(1), num(1)), {Op: math.MaxInt}, {Op: math.MinInt}, endless} {
			whole, free, e := kind.Infer(m, x)
			uses, f := kind.Uses(m, x)
			if !sameType(whole, api.KindType{}) || free != nil || uses != nil || e != api.ErrArg || f != api.ErrArg {
				t.Error(i, e, f)
			}
		}
		if rule, e := kind.Accept(m, make([]api.KindType, 1<<20)); rule != 0 || e != api.ErrArg {
			t.Error(rule, e)
		}
	}
}

// anything makes values of any kind, most of which are not formed.
type anything struct{ *rand.Rand }

func (a anything) number() int {
	return []int{0, 0, 0, 1, 1, 2, 3, 4, 5, 7, 19, 20, -1, math.MaxInt, math.MinInt}[a.Intn(15)]
}

func (a anything) kind(deep int) api.KindType {
	made := api.KindType{Sort: api.KindSort(a.Intn(6)), N: a.number()}
	for range a.Intn(3) * min(deep, 1) {
		made.Parts = append(made.Parts, a.kind(deep-1))
	}
	return made
}

func (a anything) term(deep int) api.Term {
	made := api.Term{Op: api.TermOp(a.Intn(18)), N: a.number()}
	for range a.Intn(3) * min(deep, 1) {
		made.Kids = append(made.Kids, a.term(deep-1))
	}
	return made
}

// change changes something somewhere in a module.
func (a anything) change(m *api.ReadModule) {
	d := &m.Datas[a.Intn(len(m.Datas))]
	switch a.Intn(8) {
	case 0:
		d.Params = a.number()
	case 1:
		d.Cons = append(d.Cons, []api.KindType{a.kind(2)})
	case 2:
		m.Prog.Sig.Cons = append(m.Prog.Sig.Cons, api.TermName{Name: "Zz", Args: a.number()})
	case 3:
		m.Prog.Sig.Funs = append(m.Prog.Sig.Funs, api.TermName{Name: "zz", Args: a.number()})
	case 4:
		m.Prog.Rules = append(m.Prog.Rules, api.RuleRule{Fun: a.number(), Rhs: a.term(2), Vars: a.number()})
	case 5:
		if len(m.Prog.Rules) > 0 {
			m.Prog.Rules[a.Intn(len(m.Prog.Rules))].Rhs = a.term(3)
		}
	case 6:
		if len(m.Prog.Rules) > 0 {
			m.Prog.Rules[a.Intn(len(m.Prog.Rules))].Vars = a.number()
		}
	case 7:
		m.Datas = m.Datas[:a.Intn(len(m.Datas)+1)]
	}
}

// P0.11, R8: all functions end, whatever they are given, and return the same again.
func TestAnything(t *testing.T) {
	a := anything{rand.New(rand.NewSource(9))}
	for range 2000 {
		m := randomModule(t, a.Rand)
		for range a.Intn(3) {
			if len(m.Datas) > 0 {
				a.change(&m)
			}
		}
		x := a.term(3)
		types := each(m.Prog.Sig.Funs, func(api.TermName) api.KindType { return a.kind(2) })
		for _, y := range []api.Term{x, num(1)} {
			if !slices.Equal(results(m, y, types), results(m, y, types)) {
				t.Fatal("two calls return different results", showTerm(y))
			}
		}
		checked := kind.CheckDatas(m.Datas) == api.OK
		one, two := a.kind(2), a.kind(2)
		good := checked && kind.Check(m.Datas, one) == api.OK && kind.Check(m.Datas, two) == api.OK
		unifier, e := kind.Unify(m.Datas, one, two)
		match, f := kind.Match(m.Datas, one, two)
		if good == (e == api.ErrArg) || good == (f == api.ErrArg) || e != api.OK && unifier != nil || f != api.OK && match != nil {
			t.Fatal(good, e, f)
		}
		if kind.CheckModule(m) != api.OK && kind.CheckModule(m) != api.ErrArg {
			t.Fatal("another error")
		}
		if kind.CheckModule(m) == api.ErrArg {
			refused(t, showTerm(x), m)
		}
	}
}

func claimBinds(m claims.Memory, list []api.KindBind) {
	claims.List(m, list)
	for _, b := range list {
		m.Types(b.Type.Parts)
	}
}

// R4: no argument is changed, and results share no memory with arguments, or with each other.
func TestMemory(t *testing.T) {
	r := rand.New(rand.NewSource(10))
	mem := claims.New(t.Fatal)
	for range 200 {
		m := randomModule(t, r)
		x := randomTerm(t, r, m)
		k := &maker{Rand: r, ReadModule: m}
		types, _ := kind.Types(m)
		one, two := k.kind(2, 3), k.kind(2, 3)
		text := func() string {
			return showModule(m) + showTerm(x) + showTypes(m.Datas, types) + show(m.Datas, one) + show(m.Datas, two)
		}
		before := text()
		mem.Types([]api.KindType{one, two})
		mem.Types(types)
		for _, d := range m.Datas {
			each(d.Cons, func(args []api.KindType) bool { mem.Types(args); return true })
		}
		for range 2 {
			groups, _ := kind.Groups(m.Prog)
			claims.List(mem, groups)
			each(groups, func(g []int) bool { claims.List(mem, g); return true })
			again, _ := kind.Types(m)
			mem.Types(again)
			group, _ := kind.Wrong(m)
			claims.List(mem, group)
			whole, free, _ := kind.Infer(m, x)
			mem.Types([]api.KindType{whole})
			mem.Types(free)
			uses, _ := kind.Uses(m, x)
			claims.List(mem, uses)
			each(uses, func(u api.KindUse) bool { mem.Types(u.Types); return true })
			unifier, _ := kind.Unify(m.Datas, one, two)
			claimBinds(mem, unifier)
			match, _ := kind.Match(m.Datas, one, two)
			claimBinds(mem, match)
			kind.Accept(m, types)
		}
		if text() != before {
			t.Fatal("an argument was changed", before, text())
		}
	}
	// Types whose parts are the same nodes of a graph.
	m := mustModule(t, more+"p(x) = Pair(Pair(x, x), Pair(x, x)); f(x) = let y = Pair(x, 1) in Pair(y, y);")
	for range 2 {
		types, e := kind.Types(m)
		whole, free, f := kind.Infer(m, node(api.TermFun, 0, con(4, v(0), v(1))))
		uses, g := kind.Uses(m, node(api.TermFun, 0, con(4, v(0), num(1))))
		unifier, h := kind.Unify(m.Datas, arrow(typeVar(0), typeVar(1)), arrow(typeVar(1), arrow(integers(), integers())))
		if e != api.OK || f != api.OK || g != api.OK || h != api.OK {
			t.Fatal(e, f, g, h)
		}
		mem.Types(types)
		mem.Types([]api.KindType{whole})
		mem.Types(free)
		each(uses, func(u api.KindUse) bool { mem.Types(u.Types); return true })
		claimBinds(mem, unifier)
	}
}
