package kind_test

import (
	"math/rand"
	"slices"
	"testing"

	"swingle/api"
	"swingle/kind"
)

// pairRow is two types, and what is made of them.
type pairRow struct {
	a, b, want string
	e          api.Errno
}

func checkPairs(t *testing.T, of func([]api.KindData, api.KindType, api.KindType) ([]api.KindBind, api.Errno), rows []pairRow) {
	t.Helper()
	datas := mustModule(t, more).Datas
	for _, x := range rows {
		got, e := of(datas, typeOf(datas, x.a), typeOf(datas, x.b))
		if e != x.e || showBinds(datas, got) != x.want {
			t.Errorf("%v and %v: got %v %q, want %v %q", x.a, x.b, e, showBinds(datas, got), x.e, x.want)
		}
	}
}

// P3.2: Unify.
func TestUnify(t *testing.T) {
	rows := []pairRow{
		{"?1 -> ?0", "List(?0) -> int", "0 int, 1 List(int)", api.OK},
		{"?0", "?0", "", api.OK},
		{"?0", "List(?0)", "", api.ErrRule},
		{"?3", "?1", "3 ?1", api.OK},
		{"int", "int", "", api.OK},
		{"List(Pair(int, Bool))", "List(Pair(int, Bool))", "", api.OK},
		{"?19", "int", "19 int", api.OK},
		{"?0 -> ?1", "?1 -> ?0", "1 ?0", api.OK},
		{"?3 -> (?2 -> ?1)", "?2 -> (?1 -> ?0)", "1 ?0, 2 ?0, 3 ?0", api.OK},
		{"?0 -> (?5 -> ?3)", "?4 -> (?2 -> ?5)", "3 ?2, 4 ?0, 5 ?2", api.OK},
		{"Pair(?5, ?5)", "Pair(?2, List(?7))", "2 List(?7), 5 List(?7)", api.OK},
		{"Pair(?2, List(?7))", "Pair(?5, ?5)", "2 List(?7), 5 List(?7)", api.OK},
		{"Pair(List(?4), List(?1))", "Pair(?0, ?0)", "0 List(?1), 4 ?1", api.OK},
		{"Fn(?0, ?1)", "Fn(?1, Ph(?2))", "0 Ph(?2), 1 Ph(?2)", api.OK},
		{"Ph(?1)", "Ph(?0)", "1 ?0", api.OK},
		{"(?0 -> ?0) -> ?1", "?1 -> (int -> ?2)", "0 int, 1 int -> int, 2 int", api.OK},
		{"int", "Bool", "", api.ErrRule},
		{"Nat", "Bool", "", api.ErrRule},
		{"List(?0)", "Ph(?0)", "", api.ErrRule},
		{"Fn(?0, ?1)", "Pair(?0, ?1)", "", api.ErrRule},
		{"Fn(?0, ?1)", "?0 -> ?1", "", api.ErrRule},
		{"int", "?0 -> ?1", "", api.ErrRule},
		{"?0 -> ?0", "int -> Bool", "", api.ErrRule},
		{"Pair(?0, ?0)", "Pair(?1, List(?1))", "", api.ErrRule},
		{"?0 -> ?1", "?1 -> List(?0)", "", api.ErrRule},
		{"?0 -> (?1 -> ?2)", "List(?1) -> (List(?2) -> List(?0))", "", api.ErrRule},
		{"?0 -> ?0", "(?1 -> ?1) -> ((?0 -> int) -> ?0)", "", api.ErrRule},
		// 20 nodes; 21; what both become may have more.
		{"Pair(?0, Pair(?1, ?2))", "Pair(List(Pair(?1, ?1)), Pair(Pair(?2, ?2), List(List(List(int)))))",
			"0 List(Pair(Pair(List(List(List(int))), List(List(List(int)))), Pair(List(List(List(int))), List(List(List(int)))))), 1 Pair(List(List(List(int))), List(List(List(int)))), 2 List(List(List(int)))", api.OK},
		{"Pair(?0, Pair(?1, ?2))", "Pair(Pair(?1, ?1), Pair(List(Pair(?2, ?2)), List(List(List(int)))))", "", api.ErrLong},
		// No unifier comes first.
		{"Pair(?0, Pair(?1, Pair(?2, int)))", "Pair(Pair(?1, ?1), Pair(List(Pair(?2, ?2)), Pair(List(List(List(int))), Bool)))", "", api.ErrRule},
		{"Pair(?0, Pair(?1, Pair(?2, ?4)))", "Pair(Pair(?1, ?1), Pair(List(Pair(?2, ?2)), Pair(List(List(List(int))), List(?4))))", "", api.ErrRule},
		{"?0 -> (?1 -> (?2 -> (?3 -> int)))", "(?1 -> ?1) -> ((?2 -> ?2) -> ((?3 -> ?3) -> ((?4 -> ?4) -> int)))", "", api.ErrLong},
		{"?0 -> (?1 -> (?2 -> (?3 -> int)))", "(?1 -> ?1) -> ((?2 -> ?2) -> ((?3 -> ?3) -> ((?0 -> ?0) -> int)))", "", api.ErrRule},
	}
	checkPairs(t, kind.Unify, rows)
}

// P3.2: Match.
func TestMatch(t *testing.T) {
	checkPairs(t, kind.Match, []pairRow{
		{"?0 -> ?0", "int -> int", "0 int", api.OK},
		{"?0 -> ?0", "int -> Bool", "", api.ErrRule},
		{"int", "?0", "", api.ErrRule},
		{"int", "int", "", api.OK},
		{"?0", "?0", "0 ?0", api.OK},
		{"?0", "List(?0)", "0 List(?0)", api.OK},
		{"?0 -> ?1", "?1 -> ?0", "0 ?1, 1 ?0", api.OK},
		{"?1 -> ?0", "?0 -> ?0", "0 ?0, 1 ?0", api.OK},
		{"?0 -> ?0", "?0 -> ?1", "", api.ErrRule},
		{"?0 -> ?0", "?7 -> ?7", "0 ?7", api.OK},
		{"Pair(?19, ?3)", "Pair(List(?3), ?19 -> int)", "3 ?19 -> int, 19 List(?3)", api.OK},
		{"Pair(?0, ?0)", "Pair(List(?0), List(?0))", "0 List(?0)", api.OK},
		{"Pair(?0, ?0)", "Pair(?0, List(?0))", "", api.ErrRule},
		{"List(?0)", "?0", "", api.ErrRule},
		{"List(?0)", "Ph(int)", "", api.ErrRule},
		{"?0 -> ?1", "Fn(int, int)", "", api.ErrRule},
		{"Bool", "Nat", "", api.ErrRule},
		{"Pair(?0, int)", "Pair(int, ?0)", "", api.ErrRule},
	})
	datas := mustModule(t, more).Datas
	big := deep(20)
	if got, e := kind.Match(datas, typeVar(5), big); e != api.OK || len(got) != 1 || got[0].Var != 5 || !sameType(got[0].Type, big) {
		t.Error(e, got)
	}
}

// bound returns a type with a binding list put in, at once.
func bound(t api.KindType, list []api.KindBind) api.KindType {
	return replaced(t, func(n int) api.KindType {
		for _, b := range list {
			if b.Var == n {
				return b.Type
			}
		}
		return typeVar(n)
	})
}

// refUnify returns the most general unifier.
func refUnify(a, b api.KindType) ([]api.KindBind, api.Errno) {
	e := newEquations(20)
	e.equal(a, b)
	if !e.solve() {
		return nil, api.ErrRule
	}
	var list []api.KindBind
	for n := range 20 {
		if t := e.now(typeVar(n)); t.Sort != api.KindVar || t.N != n {
			if countNodes(t) > 20 {
				return nil, api.ErrLong
			}
			list = append(list, api.KindBind{Var: n, Type: t})
		}
	}
	return list, api.OK
}

func hasMore(a, b api.KindBind) int { return a.Var - b.Var }

// P3.2: unifiers make types the same, are the most general ones, and have no variable that they bind in their Types.
func TestRandomUnify(t *testing.T) {
	r := rand.New(rand.NewSource(2))
	k := newMaker(t, r)
	met := map[api.Errno]int{}
	for range 10000 {
		vars := 1 + r.Intn(6)
		a, b := k.kind(1+r.Intn(4), vars), k.kind(1+r.Intn(4), vars)
		var proposed []api.KindBind
		if r.Intn(2) == 0 { // two types with a unifier that is known
			for n := range vars {
				proposed = append(proposed, api.KindBind{Var: n, Type: k.kind(2, vars)})
			}
			b = k.taken(bound(a, proposed), proposed)
			if !sameType(bound(b, proposed), bound(a, proposed)) {
				proposed = nil
			}
		}
		if r.Intn(4) == 0 { // types that become large
			proposed = nil
			for n := range 4 {
				a, b = ofData(2, typeVar(n), a), ofData(2, k.double(n+1), b)
			}
		}
		if countNodes(a) > 20 || countNodes(b) > 20 {
			continue
		}
		got, e := kind.Unify(k.Datas, a, b)
		want, wantError := refUnify(a, b)
		met[e]++
		if e != wantError || showBinds(k.Datas, got) != showBinds(k.Datas, want) {
			t.Fatal(show(k.Datas, a), " and ", show(k.Datas, b), e, wantError, showBinds(k.Datas, got), showBinds(k.Datas, want))
		}
		if proposed != nil && e == api.ErrRule {
			t.Fatal("there is a unifier", show(k.Datas, a), show(k.Datas, b), showBinds(k.Datas, proposed))
		}
		if e != api.OK {
			continue
		}
		if !sameType(bound(a, got), bound(b, got)) || !slices.IsSortedFunc(got, hasMore) {
			t.Fatal(show(k.Datas, a), show(k.Datas, b), showBinds(k.Datas, got))
		}
		for _, x := range got {
			for _, y := range got {
				if typeHas(x.Type, y.Var) {
					t.Fatal("a bound variable stands in a Type", showBinds(k.Datas, got))
				}
			}
			if proposed != nil && !sameType(bound(x.Type, proposed), bound(typeVar(x.Var), proposed)) {
				t.Fatal("not the most general one", showBinds(k.Datas, got), showBinds(k.Datas, proposed))
			}
		}
	}
	t.Log(met)
	if met[api.OK] < 1000 || met[api.ErrRule] < 1000 || met[api.ErrLong] < 5 {
		t.Error("too few of some kind", met)
	}
}

// double returns a type in which mostly a variable stands twice.
func (k *maker) double(n int) api.KindType {
	if k.Intn(8) == 0 {
		return k.kind(2, 6)
	}
	return arrow(typeVar(n), typeVar(n))
}

// taken puts variables back, here and there, for what a binding list puts in for them.
func (k *maker) taken(t api.KindType, list []api.KindBind) api.KindType {
	for _, b := range list {
		if k.Intn(3) > 0 && sameType(b.Type, t) {
			return typeVar(b.Var)
		}
	}
	return api.KindType{Sort: t.Sort, N: t.N, Parts: each(t.Parts, func(p api.KindType) api.KindType { return k.taken(p, list) })}
}

// P3.2: a match makes one type the other one, and there is no match only if nothing does.
func TestRandomMatch(t *testing.T) {
	r := rand.New(rand.NewSource(3))
	k := newMaker(t, r)
	met := map[api.Errno]int{}
	for range 10000 {
		a, b := k.kind(1+r.Intn(4), 4), k.kind(1+r.Intn(4), 4)
		var want []api.KindBind
		wantError := api.OK
		if r.Intn(2) == 0 {
			for n := range 4 {
				if typeHas(a, n) {
					want = append(want, api.KindBind{Var: n, Type: k.kind(2, 4)})
				}
			}
			b = bound(a, want)
		} else {
			e := newEquations(20)
			e.equal(a, replaced(b, standing))
			if !e.solve() {
				wantError = api.ErrRule
			}
			for n := range 4 {
				if typeHas(a, n) && wantError == api.OK {
					want = append(want, api.KindBind{Var: n, Type: back(e.now(typeVar(n)))})
				}
			}
		}
		if countNodes(a) > 20 || countNodes(b) > 20 {
			continue
		}
		got, e := kind.Match(k.Datas, a, b)
		met[e]++
		if e != wantError || showBinds(k.Datas, got) != showBinds(k.Datas, want) || e == api.OK && !sameType(bound(a, got), b) {
			t.Fatal(show(k.Datas, a), " to ", show(k.Datas, b), e, wantError, showBinds(k.Datas, got), showBinds(k.Datas, want))
		}
	}
	if met[api.OK] < 1000 || met[api.ErrRule] < 1000 {
		t.Error("too few of some kind", met)
	}
}
