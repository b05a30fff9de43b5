package kind_test

import (
	"math/rand"
	"strings"
	"testing"

	"swingle/api"
	"swingle/kind"
)

// typesRow is a module, the types of its functions, and those of the wrong group.
type typesRow struct {
	source, types string
	e             api.Errno
	wrong         string
}

func right(source, types string) typesRow { return typesRow{source, types, api.OK, ""} }

func wrong(source, group string) typesRow { return typesRow{source, "", api.ErrRule, group} }

func tooLong(source string) typesRow { return typesRow{source, "", api.ErrLong, ""} }

// checkTypes fails if Types or Wrong return anything else.
func checkTypes(t *testing.T, m api.ReadModule, x typesRow) {
	t.Helper()
	got, e := kind.Types(m)
	if e != x.e || showTypes(m.Datas, got) != x.types {
		t.Errorf("%v: got %v %q, want %v %q", x.source, e, showTypes(m.Datas, got), x.e, x.types)
	}
	want := map[api.Errno]api.Errno{api.OK: api.ErrNone, api.ErrRule: api.OK, api.ErrLong: api.ErrLong}[x.e]
	group, f := kind.Wrong(m)
	if f != want || showGroups([][]int{group}) != x.wrong {
		t.Errorf("%v: Wrong is %v %v, want %v %v", x.source, f, group, want, x.wrong)
	}
}

// P3.4: one row for each thing that an expression or a pattern asks for.
func TestTypesOfTerms(t *testing.T) {
	for _, x := range []typesRow{
		right("f = 1;", "int"),
		right("f = ~1;", "int"),
		right("f = x;", "?0"),
		right("f(x) = x;", "?0 -> ?0"),
		right("f(x) = y;", "?0 -> ?1"),
		right("f = True;", "Bool"),
		right("f = Z;", "Nat"),
		right("f = S(x);", "Nat"),
		wrong("f = S(1);", "0"),
		wrong("f = S(True);", "0"),
		right("f = Nil;", "List(?0)"),
		right("f(x) = Cons(x, Nil);", "?0 -> List(?0)"),
		right("f(x, y) = Cons(x, y);", "?0 -> (List(?0) -> List(?0))"),
		wrong("f = Cons(1, 2);", "0"),
		wrong("f = Cons(1, Cons(True, Nil));", "0"),
		right("f(x, y) = Pair(x, y);", "?0 -> (?1 -> Pair(?0, ?1))"),
		right("f(x) = Fn(x);", "(?0 -> ?1) -> Fn(?0, ?1)"),
		wrong("f = Fn(1);", "0"),
		right("f = Ph;", "Ph(?0)"),
		right("f = Pair(Ph, Ph);", "Pair(Ph(?0), Ph(?1))"),
		right("f(Ph) = Ph;", "Ph(?0) -> Ph(?1)"),
		right("f(x, y) = x + y;", "int -> (int -> int)"),
		right("f(x, y) = x - y;", "int -> (int -> int)"),
		right("f(x, y) = x < y;", "int -> (int -> Bool)"),
		right("f(x, y) = x == y;", "?0 -> (?0 -> Bool)"),
		right("f(x, y) = x =:= y;", "?0 -> (?0 -> Bool)"),
		right("f(x, y) = x & y;", "Bool -> (Bool -> Bool)"),
		right("f(x, y) = x ? y;", "?0 -> (?0 -> ?0)"),
		right("f(x, y) = when x then y;", "Bool -> (?0 -> ?0)"),
		right("f(x, y) = x @ y;", "(?0 -> ?1) -> (?0 -> ?1)"),
		right("f(x, y) = let z = x in Pair(z, y);", "?0 -> (?1 -> Pair(?0, ?1))"),
		wrong("f = 1 + True;", "0"), wrong("f = True + 1;", "0"), wrong("f = 1 - Z;", "0"), wrong("f = Z - 1;", "0"),
		wrong("f = 1 < True;", "0"), wrong("f = True < 1;", "0"), wrong("f = (1 < 2) + 1;", "0"), wrong("f = (1 + 2) & True;", "0"),
		wrong("f = 1 == True;", "0"), wrong("f = 1 =:= True;", "0"), wrong("f = (1 == 1) + 1;", "0"), wrong("f = (1 =:= 1) + 1;", "0"),
		wrong("f = 1 & True;", "0"), wrong("f = True & 1;", "0"), wrong("f = (True & True) + 1;", "0"),
		wrong("f = 1 ? True;", "0"), wrong("f = (1 ? 2) & True;", "0"), wrong("f = when 1 then 1;", "0"), wrong("f = (when True then True) + 1;", "0"),
		wrong("f = 1 @ 1;", "0"), wrong("f(x) = x @ x;", "0"), wrong("f(x) = (x @ 1) + (x @ True);", "0"), wrong("f = let z = 1 in z & z;", "0"),
		wrong("f(x, y) = when x then x + y;", "0"),
		// Patterns.
		right("f(True) = 1;", "Bool -> int"),
		right("f(Cons(x, y)) = y;", "List(?0) -> List(?0)"),
		right("f(Cons(S(x), Nil)) = Pair(x, y);", "List(Nat) -> Pair(Nat, ?0)"),
		right("f(Fn(g), x) = g @ x;", "Fn(?0, ?1) -> (?0 -> ?1)"),
		right("f(Pair(x, Pair(y, z)), Z) = Pair(z, x);", "Pair(?0, Pair(?1, ?2)) -> (Nat -> Pair(?2, ?0))"),
		wrong("f(Cons(x, True)) = 1;", "0"), wrong("f(S(True)) = 1;", "0"), wrong("f(True) = 1; f(Z) = 1;", "0"), wrong("f(True) = 1; f(False) = True;", "0"), wrong("f(S(x)) = x + 1;", "0"),
		right("f(Nil, x) = x; f(x, Z) = Z; f(Cons(True, x), y) = y;", "List(Bool) -> (Nat -> Nat)"),
	} {
		checkTypes(t, mustModule(t, more+x.source), x)
	}
}

// P3.4: functions that call each other, and parts of them.
func TestTypesOfGroups(t *testing.T) {
	const pairs = "id(x) = x; p(x) = Pair(x, x); "
	for _, x := range []typesRow{
		right("", ""),
		right("f(x, y) = g(y, x); g(y, x) = f(x, y);", "?0 -> (?1 -> ?2); ?1 -> (?0 -> ?2)"),
		right("f(x) = g(x); g(x) = 1;", "?0 -> int; ?0 -> int"),
		wrong("f(x) = g(x); g(x) = x @ x;", "1"),
		// Each use of a function of another group has an instance of its own; in its group a function has one type.
		right(pairs+"f = Pair(id(1), id(True));", "?0 -> ?0; ?0 -> Pair(?0, ?0); Pair(int, Bool)"),
		right(pairs+"f(x) = id(id) @ x;", "?0 -> ?0; ?0 -> Pair(?0, ?0); ?0 -> ?0"),
		right("f(x) = when f(True) =:= 1 then 1;", "Bool -> int"),
		wrong("f(x) = when f(True) then 1;", "0"),
		right("f(x) = when f(True) then x;", "Bool -> Bool"),
		wrong("f(x) = when f(True) then f(1);", "0"),
		wrong("f(x) = Pair(f(1), f(True));", "0"),
		right("f(x) = g(x); g(x) = when f(True) then x;", "Bool -> Bool; Bool -> Bool"),
		right("f(x) = g(1); g(x) = f(x);", "int -> ?0; int -> ?0"),
		right("f(x) = g(1); g(x) = f(y);", "?0 -> ?1; int -> ?1"),
		wrong("f(x) = Pair(g(1), g(True)); g(x) = when f(x) =:= y then x;", "0 1"),
		right("f(x) = Pair(g(1), g(True)); g(x) = x;", "?0 -> Pair(int, Bool); ?0 -> ?0"),
		wrong("h = f(1); f(x) = g(x); g(x) = f(x) + 1; g(x) = True; k = h & True;", "1 2"),
		wrong("h = f(1); f(x) = x; k = h & True;", "2"),
		// The variable of a let has one type.
		wrong(pairs+"f = let g = id in Pair(g @ 1, g @ True);", "2"),
		right(pairs+"f = let g = id in Pair(g @ 1, g @ 2);", "?0 -> ?0; ?0 -> Pair(?0, ?0); Pair(int, int)"),
		wrong(pairs+"f = let g = id in g @ g;", "2"),
		right(pairs+"f(x) = let g = x in let x = 1 in Pair(g, x);", "?0 -> ?0; ?0 -> Pair(?0, ?0); ?0 -> Pair(?0, int)"),
		// Types that would contain themselves, also where the function's type does not show them.
		wrong("f(x) = when y =:= Cons(y, Nil) then x;", "0"),
		wrong("f(x) = when y @ y then x;", "0"),
		wrong("f(x) = when Cons(y, z) =:= Cons(Pair(u, w), Cons(y, u)) & u =:= Pair(y, 1) then x;", "0"),
		wrong("f(x) = let y = Pair(x, z) in when z =:= Fn(u) & u @ y =:= 1 & x =:= z then 1;", "0"),
		wrong("f = f @ 1;", "0"),
		wrong("f(x) = f;", "0"),
		// Functions with fewer arguments, and with results that are functions.
		right("add(x, y) = x + y; f = add; g = add(1); h(x) = add;", "int -> (int -> int); int -> (int -> int); int -> int; ?0 -> (int -> (int -> int))"),
		right("twice(g, x) = g @ (g @ x); f = twice(twice);", "(?0 -> ?0) -> (?0 -> ?0); (?0 -> ?0) -> (?0 -> ?0)"),
		right("c(u, w, x) = u @ (w @ x); s(x) = x + 1; f = c(s); g = c(s, s);", "(?0 -> ?1) -> ((?2 -> ?0) -> (?2 -> ?1)); int -> int; (?0 -> int) -> (?0 -> int); int -> int"),
		wrong("f(x) = g; g(x) = f;", "0 1"),
		wrong("add(x, y) = x + y; f = add(True);", "1"),
		wrong("add(x, y) = x + y; f = add + 1;", "1"),
		wrong("add(x, y) = x + y; f = add(1) @ 2 @ 3;", "1"),
		right("add(x, y) = x + y; f = add(1) @ 2;", "int -> (int -> int); int"),
		right("f(x, y, z, u) = when x == y & z == u then f(y, x, u, z);", "?0 -> (?0 -> (?1 -> (?1 -> ?2)))"),
	} {
		checkTypes(t, mustModule(t, more+x.source), x)
	}
	checkTypes(t, mustModule(t, lists), right("M", "List(?0) -> (List(?0) -> List(?0)); List(?0) -> ?0; int; (?0 -> ?0) -> (?0 -> ?0)"))
}

// P3.4: functions without rules have the most general types with their arguments.
func TestTypesWithoutRules(t *testing.T) {
	m := mustModule(t, more+"f = 1; g(x) = 1; h(x, y, z, u) = 1; k(x) = g(x) ? h(x, x, x, x);")
	m.Prog.Rules = m.Prog.Rules[3:]
	checkTypes(t, m, right("one rule", "?0; ?0 -> ?1; ?0 -> (?1 -> (?2 -> (?3 -> ?4))); ?0 -> ?1"))
	m.Prog.Rules = nil
	checkTypes(t, m, right("no rules", "?0; ?0 -> ?1; ?0 -> (?1 -> (?2 -> (?3 -> ?4))); ?0 -> ?1"))
}

// wrapped is a term in so many lists, each in the other one: a type with as many nodes more.
func wrapped(times int, text string) string {
	return strings.Repeat("Cons(", times) + text + strings.Repeat(", Nil)", times)
}

// P3.4: ErrLong, and which group decides.
func TestTypesTooLong(t *testing.T) {
	const eight = "Pair(Pair(Pair(x, x), Pair(x, x)), Pair(Pair(x, x), Pair(x, x)))"
	const doubles = "p(x) = Pair(x, x); q(x) = p(p(x)); r(x) = q(p(x)); "
	const lets = doubles + "f(x) = let a = r(x) in let b = r(a) in let c = r(b) in let d = r(c) in let e = r(d) in let g = r(e) in let h = r(g) in let i = r(h) in let j = r(i) in let k = r(j) in "
	full := "Pair(Pair(Pair(?0, ?0), Pair(?0, ?0)), Pair(Pair(?0, ?0), Pair(?0, ?0)))"
	small := "?0 -> Pair(?0, ?0); ?0 -> Pair(Pair(?0, ?0), Pair(?0, ?0)); ?0 -> " + full
	const wrongOne = "w = 1 + True; "
	for _, x := range []typesRow{
		// 20 nodes, and 21; what stands inside can have more.
		right("f(x) = "+wrapped(3, eight)+";", "?0 -> List(List(List("+full+")))"),
		tooLong("f(x) = " + wrapped(4, eight) + ";"),
		right("f(x) = when "+wrapped(4, eight)+" =:= y then x;", "?0 -> ?0"),
		right(doubles, small),
		tooLong(doubles + "s(x) = r(p(x));"),
		// 8 to the power of 10 parts, of which none is told, and all are.
		right(lets+"x;", small+"; ?0 -> ?0"),
		tooLong(lets + "k;"),
		wrong(lets+"x + k;", "3"),
		// The first group in order decides; in one group that there are no types at all.
		tooLong(doubles + "s(x) = r(p(x)); " + wrongOne),
		wrong(wrongOne+doubles+"s(x) = r(p(x));", "0"),
		tooLong(wrongOne[:len(wrongOne)-2] + " + s; " + doubles + "s(x) = r(p(x));"),
		wrong(doubles+"s(x) = r(p(x)); s(x) = 1;", "3"),
		// 20 type variables, and 21.
		right(manyVars(3), "?0 -> (?1 -> (?2 -> (?3 -> ?4))); ?5 -> (?6 -> (?7 -> (?8 -> ?4))); ?9 -> (?10 -> (?11 -> (?12 -> ?4))); ?13 -> (?14 -> (?15 -> (?16 -> ?4))); ?17 -> (?18 -> (?19 -> ?4))"),
		tooLong(manyVars(4)),
	} {
		checkTypes(t, mustModule(t, more+x.source), x)
	}
}

// manyVars is a group of functions whose types have 17 type variables together, and one for each argument of the last one.
func manyVars(last int) string {
	params, free := "(x, y, z, u)"[:3*last-1], "(a, b, c, d)"[:3*last-1]
	return "f(x, y, z, u) = g(a, b, c, d); g(x, y, z, u) = h(a, b, c, d); h(x, y, z, u) = i(a, b, c, d); i(x, y, z, u) = j" + free + "); j" + params + ") = f(a, b, c, d);"
}

// P3.4: Types and Wrong are what the definitions say, for modules of all kinds.
func TestRandomTypes(t *testing.T) {
	r := rand.New(rand.NewSource(1))
	met := map[api.Errno]int{}
	for range 3000 {
		m := randomModule(t, r)
		types, group, e := refTypes(m)
		x := typesRow{showModule(m), showTypes(m.Datas, types), e, ""}
		if e == api.ErrRule {
			x.wrong = showGroups([][]int{group})
		}
		checkTypes(t, m, x)
		met[e]++
	}
	if met[api.OK] < 1000 || met[api.ErrRule] < 100 {
		t.Error("too few of some kind", met)
	}
}
