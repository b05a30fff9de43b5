package kind_test

import (
	"math/rand"
	"slices"
	"testing"

	"swingle/api"
	"swingle/kind"
)

// acceptRow is a module, types that are proposed, and what Accept returns.
type acceptRow struct {
	source, types string
	rule          int
	e             api.Errno
}

func checkAccept(t *testing.T, m api.ReadModule, x acceptRow) {
	t.Helper()
	if rule, e := kind.Accept(m, typesOf(m.Datas, x.types)); rule != x.rule || e != x.e {
		t.Errorf("%v with %q: got %v %v, want %v %v", x.source, x.types, rule, e, x.rule, x.e)
	}
}

// P3.6: Accept.
func TestAccept(t *testing.T) {
	const swap = "f(x, y) = g(y, x); g(y, x) = f(x, y);"
	const id = "id(x) = x; f = id(True);"
	const app = "app(Nil, y) = y;"
	const more2 = "id(x) = x; f(x) = id(x); g = f(1);"
	for _, x := range []acceptRow{
		{"", "", 0, api.OK},
		{app, "List(?0) -> (List(?0) -> List(?0))", 0, api.OK},
		{app, "List(?0) -> (?1 -> ?1)", 0, api.OK},
		{app, "?0 -> (?1 -> ?1)", 0, api.ErrRule},
		{app, "List(?1) -> (?0 -> ?0)", 0, api.OK},
		{app, "List(int) -> (int -> int)", 0, api.OK},
		{app, "List(?0) -> (?0 -> ?1)", 0, api.ErrRule},
		{app, "List(?0) -> (?1 -> int)", 0, api.ErrRule},
		// In its group a function has just its type; in other groups any instance.
		{swap, "?0 -> (?1 -> ?2); ?1 -> (?0 -> ?2)", 0, api.OK},
		{swap, "?5 -> (?19 -> ?0); ?19 -> (?5 -> ?0)", 0, api.OK},
		{swap, "?0 -> (?1 -> ?2); ?0 -> (?1 -> ?2)", 0, api.ErrRule},
		{swap, "?0 -> (?0 -> ?2); ?0 -> (?0 -> ?2)", 0, api.OK},
		{swap, "?0 -> (?1 -> ?2); ?1 -> (?0 -> ?3)", 0, api.ErrRule},
		{swap, "int -> (Bool -> ?2); Bool -> (int -> ?2)", 0, api.OK},
		{swap, "int -> (Bool -> ?2); ?1 -> (?0 -> ?2)", 0, api.ErrRule},
		{id, "?0 -> ?0; Bool", 0, api.OK},
		{id, "?7 -> ?7; Bool", 0, api.OK},
		{id, "Bool -> Bool; Bool", 0, api.OK},
		{id, "int -> int; Bool", 1, api.ErrRule},
		{id, "?0 -> ?0; ?0", 1, api.ErrRule},
		{id, "?0 -> ?1; Bool", 0, api.ErrRule},
		{id, "List(?0) -> List(?0); Bool", 1, api.ErrRule},
		{more2, "?0 -> ?0; ?0 -> ?0; int", 0, api.OK},
		{more2, "?0 -> ?0; ?3 -> ?3; int", 0, api.OK},
		{more2, "int -> int; int -> int; int", 0, api.OK},
		{more2, "int -> int; ?0 -> ?0; int", 1, api.ErrRule},
		{more2, "?0 -> ?0; Bool -> Bool; int", 2, api.ErrRule},
		{"f(x) = when f(True) then x;", "Bool -> Bool", 0, api.OK},
		{"f(x) = when f(True) =:= y then y;", "?0 -> ?0", 0, api.ErrRule},
		{"f(x) = when f(True) then f(1);", "?0 -> ?0", 0, api.ErrRule},
		{"f(x) = when g(True) then x; g(x) = x;", "?0 -> ?0; ?0 -> ?0", 0, api.OK},
		// A type variable stands for itself.
		{"f(x) = x + 1;", "?0 -> int", 0, api.ErrRule},
		{"f(x) = x + 1;", "int -> int", 0, api.OK},
		{"f(x) = Nil;", "?0 -> List(?1)", 0, api.OK},
		{"f(x) = Nil;", "?0 -> List(?0)", 0, api.OK},
		{"f(x) = Nil;", "?0 -> ?1", 0, api.ErrRule},
		{"f(x) = y;", "?0 -> ?1", 0, api.OK},
		{"f(x) = x @ x;", "?0 -> ?1", 0, api.ErrRule},
		{"f(x) = x @ x;", "(?0 -> ?1) -> ?1", 0, api.ErrRule},
		{"f = when y =:= Cons(y, Nil) then 1;", "int", 0, api.ErrRule},
		{"f(g) = g @ g;", "", 0, api.ErrArg},
		// The first rule that does not fit, whatever the order of groups.
		{"f(x) = g(x); g(x) = x + True; h = True + 1;", "int -> int; int -> int; int", 1, api.ErrRule},
		{"f(x) = g(x) & True; g(x) = x; h = 1;", "int -> int; int -> int; Bool", 0, api.ErrRule},
		{"f(x) = g(x); g(x) = x; h = 1;", "int -> int; int -> int; Bool", 2, api.ErrRule},
		{"f(True) = 1; f(False) = 2; f(Z) = 3; f(x) = True;", "Bool -> int", 2, api.ErrRule},
		{"f(True) = 1; f(False) = 2; f(Z) = 3; f(x) = True;", "Nat -> int", 0, api.ErrRule},
		// Functions with more arguments than their patterns.
		{"f = g; g(x) = h(x); h(x, y) = x + y;", "int -> (int -> int); int -> (int -> int); int -> (int -> int)", 0, api.OK},
		{"f = g; g(x) = h(x); h(x, y) = x + y;", "?0; int -> (int -> int); int -> (int -> int)", 0, api.ErrRule},
		// Not as many types as functions; too few arguments; types that are not formed.
		{id, "", 0, api.ErrArg},
		{id, "?0 -> ?0", 0, api.ErrArg},
		{id, "?0 -> ?0; Bool; Bool", 0, api.ErrArg},
		{id, "?0; Bool", 0, api.ErrArg},
		{id, "int; Bool", 0, api.ErrArg},
		{id, "Fn(?0, ?0); Bool", 0, api.ErrArg},
		{swap, "?0 -> (?1 -> ?2); ?1 -> ?0", 0, api.ErrArg},
		{swap, "(?0 -> ?1) -> ?2; ?1 -> (?0 -> ?2)", 0, api.ErrArg},
		{id, "?20 -> ?20; Bool", 0, api.ErrArg},
		{id, "?0 -> ?0; ?20", 0, api.ErrArg},
		{id, "?0 -> ?0; Bool(int)", 0, api.ErrArg},
		{"", "int", 0, api.ErrArg},
		{"f = 1 + True;", "?20", 0, api.ErrArg},
	} {
		checkAccept(t, mustModule(t, more+x.source), x)
	}
	m := mustModule(t, lists)
	checkAccept(t, m, acceptRow{"M", "List(?0) -> (List(?0) -> List(?0)); List(?0) -> ?0; int; (?0 -> ?0) -> (?0 -> ?0)", 0, api.OK})
	checkAccept(t, m, acceptRow{"M", "List(?0) -> (List(?0) -> List(?0)); List(int) -> int; int; (?0 -> ?0) -> (?0 -> ?0)", 0, api.OK})
	checkAccept(t, m, acceptRow{"M", "List(?0) -> (List(?0) -> List(?0)); List(int) -> int; ?0; (?0 -> ?0) -> (?0 -> ?0)", 3, api.ErrRule})
	// Functions without rules can have any type with enough arguments.
	m.Prog.Rules = nil
	checkAccept(t, m, acceptRow{"no rules", "int -> (Bool -> List(?0)); ?3 -> ?3; ?19; ?0 -> (?1 -> ?0)", 0, api.OK})
	// More type variables than a group's principal types can have.
	m = mustModule(t, more+manyVars(4))
	if _, e := kind.Types(m); e != api.ErrLong {
		t.Error(e)
	}
	checkAccept(t, m, acceptRow{"many", "?0 -> (?0 -> (?0 -> (?0 -> int))); ?0 -> (?0 -> (?0 -> (?0 -> int))); ?0 -> (?0 -> (?0 -> (?0 -> int))); ?1 -> (?0 -> (?0 -> (?0 -> int))); ?0 -> (?0 -> (?0 -> (?0 -> int)))", 0, api.OK})
}

// P3.4, P3.6: types are accepted just if all rules fit; those with a binding
// list put in for a group are, if groups before have principal types.
func TestRandomAccept(t *testing.T) {
	r := rand.New(rand.NewSource(6))
	met := map[api.Errno]int{}
	for range 1500 {
		m := randomModule(t, r)
		k := &maker{Rand: r, ReadModule: m}
		types, e := kind.Types(m)
		if e == api.OK {
			if rule, f := kind.Accept(m, types); f != api.OK || rule != 0 {
				t.Fatal("principal types are right", rule, f, showModule(m))
			}
		}
		for range 6 {
			var proposed []api.KindType
			if e == api.OK {
				proposed = k.changed(types)
			} else {
				proposed = each(m.Prog.Sig.Funs, func(f api.TermName) api.KindType { return k.withArgs(f.Args) })
			}
			if slices.ContainsFunc(proposed, func(x api.KindType) bool { return kind.Check(m.Datas, x) != api.OK }) {
				continue
			}
			want, wantError := refAccept(m, proposed), api.ErrRule
			if want < 0 {
				want, wantError = 0, api.OK
			}
			rule, f := kind.Accept(m, proposed)
			if rule != want || f != wantError {
				t.Fatal(rule, f, want, wantError, showTypes(m.Datas, proposed), showModule(m))
			}
			if e == api.ErrRule && f == api.OK {
				t.Fatal("there are types that are right", showTypes(m.Datas, proposed), showModule(m))
			}
			met[f]++
		}
	}
	t.Log(met)
	if met[api.OK] < 1000 || met[api.ErrRule] < 1000 {
		t.Error("too few of some kind", met)
	}
}

// withArgs returns a type that has so many arguments.
func (k *maker) withArgs(args int) api.KindType {
	made := k.kind(2, 3)
	for range args {
		made = arrow(k.kind(2, 3), made)
	}
	return made
}

// changed puts something in for type variables, for each type or for all of them, and sometimes changes something else.
func (k *maker) changed(types []api.KindType) []api.KindType {
	var list []api.KindBind
	some := func() {
		list = nil
		for n := range 20 {
			list = append(list, api.KindBind{Var: n, Type: k.kind(2, 3)})
		}
	}
	some()
	apart, broken := k.Intn(3) == 0, k.Intn(3) == 0
	return each(types, func(x api.KindType) api.KindType {
		if apart {
			some()
		}
		if k.Intn(3) > 0 {
			x = bound(x, list)
		}
		if broken && k.Intn(3) == 0 {
			x = k.other(x)
		}
		return x
	})
}

// other returns a type that has another part somewhere, but no fewer arguments.
func (k *maker) other(t api.KindType) api.KindType {
	if t.Sort != api.KindFun {
		return k.kind(2, 3)
	}
	if k.Intn(2) == 0 {
		return arrow(k.kind(2, 3), t.Parts[1])
	}
	return arrow(t.Parts[0], k.other(t.Parts[1]))
}

// allTypes returns all types of at most so many nodes, with int, Bool, List, arrows and two type variables.
func allTypes(nodes int) []api.KindType {
	if nodes < 1 {
		return nil
	}
	list := []api.KindType{typeVar(0), typeVar(1), integers(), ofData(0)}
	for _, part := range allTypes(nodes - 1) {
		list = append(list, ofData(1, part))
	}
	for _, from := range allTypes(nodes - 2) {
		for _, to := range allTypes(nodes - 1 - countNodes(from)) {
			list = append(list, arrow(from, to))
		}
	}
	return list
}

// P3.4, P3.6: of all small types just the instances of the principal type are right.
func TestPrincipal(t *testing.T) {
	all := allTypes(5)
	for _, source := range []string{
		"f = 1;", "f = x;", "f = Nil;", "f(x) = x;", "f(x) = y;", "f(x) = Nil;", "f(x) = Cons(x, Nil);", "f(x, y) = x;", "f(x) = x @ 1;",
		"f(x) = x @ x;", "f(x) = f(x);", "f(x) = f(y);", "f(Nil) = Nil;", "f(Cons(x, y)) = x;", "f(x) = x < 1;", "f(x, y) = when x == y then x;", "f(True) = Nil; f(x) = Cons(1, Nil);", "f = f;", "f(x) = when f(1) then x;",
	} {
		m := mustModule(t, more+source)
		types, e := kind.Types(m)
		met := 0
		for _, x := range all {
			args := 0
			for at := x; at.Sort == api.KindFun; at = at.Parts[1] {
				args++
			}
			rule, f := kind.Accept(m, []api.KindType{x})
			want := api.ErrRule
			switch {
			case args < m.Prog.Sig.Funs[0].Args:
				want = api.ErrArg
			case e == api.OK:
				_, want = kind.Match(m.Datas, types[0], x)
			}
			if f != want {
				t.Fatal(source, rule, f, want, show(m.Datas, x))
			}
			if f == api.OK {
				met++
			}
		}
		if (met > 0) != (e == api.OK) {
			t.Error(source, met, e)
		}
	}
}
