package kind_test

import (
	"math/rand"
	"slices"
	"strings"
	"testing"

	"swingle/api"
	"swingle/kind"
)

// inferRow is an expression, with its type, those of its free variables, and its uses.
type inferRow struct {
	source            string
	whole, free, uses string
	e                 api.Errno
}

func checkInfer(t *testing.T, m api.ReadModule, x api.Term, row inferRow) {
	t.Helper()
	whole, free, e := kind.Infer(m, x)
	got := show(m.Datas, whole)
	if e != api.OK {
		if !sameType(whole, api.KindType{}) || free != nil {
			t.Errorf("%v: more than %v: %v %v", row.source, e, whole, free)
		}
		got = ""
	}
	if e != row.e || got != row.whole || showTypes(m.Datas, free) != row.free {
		t.Errorf("%v: got %v %q with %q, want %v %q with %q", row.source, e, got, showTypes(m.Datas, free), row.e, row.whole, row.free)
	}
	uses, f := kind.Uses(m, x)
	if f != row.e || showUses(m, uses) != row.uses {
		t.Errorf("%v: got %v %q, want %v %q", row.source, f, showUses(m, uses), row.e, row.uses)
	}
}

// P3.5: the chapter's examples, and one expression for each operation.
func TestInfer(t *testing.T) {
	m := mustModule(t, more+"app(Nil, y) = y; app(Cons(h, t), y) = Cons(h, app(t, y)); coin = 0 ? 1; twice(k, x) = k @ (k @ x); id(x) = x; any = x;")
	for _, x := range []inferRow{
		{"app(x, Cons(1, y))", "List(int)", "List(int); List(int)", "0: app with int", api.OK},
		{"x =:= y", "Bool", "?0; ?0", "", api.OK},
		{"twice(app(x))", "List(?0) -> List(?0)", "List(?0)", "0: twice with List(?0); 1: app with ?0", api.OK},
		{"let f = twice in f @ f", "", "", "", api.ErrRule},
		{"1", "int", "", "", api.OK},
		{"x", "?0", "?0", "", api.OK},
		{"coin", "int", "", "0: coin with", api.OK},
		{"any", "?0", "", "0: any with ?0", api.OK},
		{"Pair(any, any)", "Pair(?0, ?1)", "", "1: any with ?0; 2: any with ?1", api.OK},
		{"app", "List(?0) -> (List(?0) -> List(?0))", "", "0: app with ?0", api.OK},
		{"app(Nil)", "List(?0) -> List(?0)", "", "0: app with ?0", api.OK},
		{"id @ id", "?0 -> ?0", "", "1: id with ?0 -> ?0; 2: id with ?0", api.OK},
		{"id(id)", "?0 -> ?0", "", "0: id with ?0 -> ?0; 1: id with ?0", api.OK},
		{"twice(twice)", "(?0 -> ?0) -> (?0 -> ?0)", "", "0: twice with ?0 -> ?0; 1: twice with ?0", api.OK},
		{"f @ x", "?0", "?1 -> ?0; ?1", "", api.OK},
		{"Pair(x, Pair(y, x))", "Pair(?0, Pair(?1, ?0))", "?0; ?1", "", api.OK},
		{"when x then y ? z", "?0", "Bool; ?0; ?0", "", api.OK},
		{"(x & y) ? (z < u)", "Bool", "Bool; Bool; int; int", "", api.OK},
		{"x + y - z", "int", "int; int; int", "", api.OK},
		{"x == Fn(y)", "Bool", "Fn(?0, ?1); ?0 -> ?1", "", api.OK},
		{"Ph", "Ph(?0)", "", "", api.OK},
		{"let x = y in Pair(x, y)", "Pair(?0, ?0)", "?0", "", api.OK},
		{"let x = x in S(x)", "Nat", "Nat", "", api.OK},
		{"let x = any in 1", "int", "", "1: any with ?0", api.OK},
		{"let f = id in Pair(f @ 1, id(True))", "Pair(int, Bool)", "", "1: id with int; 6: id with Bool", api.OK},
		{"when any =:= any then coin + 1", "int", "", "2: any with ?0; 3: any with ?0; 5: coin with", api.OK},
		{"x @ x", "", "", "", api.ErrRule},
		{"when x =:= Cons(x, Nil) then 1", "", "", "", api.ErrRule},
		{"app(1)", "", "", "", api.ErrRule},
		{"coin @ 1", "", "", "", api.ErrRule},
		{"coin & True", "", "", "", api.ErrRule},
		{"1 ? True", "", "", "", api.ErrRule},
		{"let x = 1 in when x then x", "", "", "", api.ErrRule},
	} {
		checkInfer(t, m, mustGoal(t, m, x.source), x)
	}
	// A variable that is free here, and bound there.
	both := []inferRow{
		{"let v0 = v0 in v0", "?0", "?0", "", api.OK},
		{"Pair(v0, let v0 = 1 in v0)", "Pair(?0, int)", "?0", "", api.OK},
		{"Pair(let v0 = 1 in v0, v0)", "Pair(int, ?0)", "?0", "", api.OK},
		{"let v0 = 1 in Pair(let v0 = True in v0, v0)", "Pair(Bool, int)", "", "", api.OK},
		{"let v3 = v3 + 1 in Pair(v3, v1)", "Pair(int, ?0)", "?0; int", "", api.OK},
		{"let v0 = True in let v0 = S(v1) in v0", "Nat", "Nat", "", api.OK},
		{"Pair(v19, v0)", "Pair(?0, ?1)", "?1; ?0", "", api.OK},
		{"Pair(let v0 = 1 in Pair(v0, v1), when v1 then v0)", "Pair(Pair(int, Bool), ?0)", "?0; Bool", "", api.OK},
	}
	pair := func(a, b api.Term) api.Term { return con(4, a, b) }
	for i, x := range []api.Term{
		let(0, v(0), v(0)),
		pair(v(0), let(0, num(1), v(0))),
		pair(let(0, num(1), v(0)), v(0)),
		let(0, num(1), pair(let(0, con(1), v(0)), v(0))),
		let(3, node(api.TermAdd, 0, v(3), num(1)), pair(v(3), v(1))),
		let(0, con(1), let(0, con(6, v(1)), v(0))),
		pair(v(19), v(0)),
		pair(let(0, num(1), pair(v(0), v(1))), node(api.TermWhen, 0, v(1), v(0))),
	} {
		checkInfer(t, m, x, both[i])
	}
	// Data types are told in the module only: this one has no functions.
	checkInfer(t, mustModule(t, ""), v(7), inferRow{"v7", "?0", "?0", "", api.OK})
}

// P3.5: the types at a use are for all numbers up to the greatest one of the function's type.
func TestUsesOfGroups(t *testing.T) {
	m := mustModule(t, more+"f(x, y) = g(y, z); g(x, y) = f(u, w); h(x) = 1; k(x, y) = i(x); i(x) = k(x, y);")
	checkTypes(t, m, right("f and g", "?0 -> (?1 -> ?2); ?1 -> (?3 -> ?2); ?0 -> int; ?0 -> (?1 -> ?2); ?0 -> ?2"))
	for _, x := range []inferRow{
		{"f(1, True)", "?0", "", "0: f with int, Bool, ?0", api.OK},
		{"g(1, True)", "?0", "", "0: g with ?1, int, ?0, Bool", api.OK},
		{"Pair(g, x)", "Pair(?0 -> (?1 -> ?2), ?3)", "?3", "1: g with ?4, ?0, ?2, ?1", api.OK},
		{"i(x) ? i(y)", "?0", "?1; ?2", "1: i with ?1, ?3, ?0; 3: i with ?2, ?4, ?0", api.OK},
		{"h(h)", "int", "", "0: h with ?0 -> int; 1: h with ?0", api.OK},
		{"h(g)", "int", "", "0: h with ?0 -> (?1 -> ?2); 1: g with ?3, ?0, ?2, ?1", api.OK},
	} {
		checkInfer(t, m, mustGoal(t, m, x.source), x)
	}
}

// P3.5: the errors of a module come before that there is no type, and this before what is too long.
func TestInferErrors(t *testing.T) {
	const doubles = more + "p(x) = Pair(x, x); q(x) = p(p(x)); r(x) = q(p(x)); "
	goal := func(m api.ReadModule, source string, want, wantUses api.Errno) {
		t.Helper()
		x := mustGoal(t, m, source)
		whole, free, e := kind.Infer(m, x)
		uses, f := kind.Uses(m, x)
		if e != want || f != wantUses {
			t.Errorf("%v: %v %v, want %v %v", source, e, f, want, wantUses)
		}
		if e != api.OK && (!sameType(whole, api.KindType{}) || free != nil) || f != api.OK && uses != nil {
			t.Errorf("%v: more than an error", source)
		}
	}
	long := mustModule(t, doubles+"s(x) = r(p(x)); w = 1 + True;")
	goal(long, "1", api.ErrLong, api.ErrLong)
	goal(long, "1 + True", api.ErrLong, api.ErrLong)
	wrong := mustModule(t, doubles+"w = 1 + True; s(x) = r(p(w));")
	goal(wrong, "1", api.ErrRule, api.ErrRule)
	goal(wrong, "r(p(1))", api.ErrRule, api.ErrRule)
	m := mustModule(t, doubles+"four(x, y, z, u) = 1; apart(x, y, z, u) = w;")
	goal(m, "r(p(1))", api.ErrLong, api.ErrLong)
	goal(m, "r(p(1)) ? 1", api.ErrRule, api.ErrRule)
	goal(m, wrapped(5, "r(1)"), api.OK, api.OK)
	goal(m, wrapped(6, "r(1)"), api.ErrLong, api.ErrLong)
	goal(m, "x =:= "+wrapped(5, "r(1)"), api.OK, api.OK)
	goal(m, "x =:= "+wrapped(6, "r(1)"), api.ErrLong, api.ErrLong)
	goal(m, wrapped(6, "r(1)")+" =:= any", api.ErrLong, api.ErrLong)
	goal(m, wrapped(6, "r(1)")+" =:= r(p(1))", api.ErrRule, api.ErrRule)
	goal(m, "four(r(1), r(1), 1, 1)", api.OK, api.OK)
	goal(m, "four(r(p(1)), 1, 1, 1)", api.OK, api.ErrLong)
	goal(m, "four("+wrapped(6, "r(1)")+", 1, 1, 1)", api.OK, api.ErrLong)
	goal(m, "let a = r(x) in let b = r(a) in let c = r(b) in let d = r(c) in let e = r(d) in let g = r(e) in let h = r(g) in let i = r(h) in x", api.OK, api.ErrLong)
	goal(m, "let a = r(x) in let b = r(a) in let c = r(b) in let d = r(c) in let e = r(d) in let g = r(e) in let h = r(g) in let i = r(h) in i", api.ErrLong, api.ErrLong)
	// 20 type variables, and 21: of a type with its free variables, and of these and the uses.
	names := strings.Split("a b c d e f g h i j k l m n o t u v x", " ")
	calls := func(fun string, args ...string) string {
		text := fun + "(" + strings.Join(args[:4], ", ") + ")"
		for args = args[4:]; len(args) > 0; args = args[3:] {
			text = fun + "(" + text + ", " + strings.Join(args[:3], ", ") + ")"
		}
		return text
	}
	goal(m, calls("four", names...), api.OK, api.OK)
	goal(m, calls("apart", names...), api.OK, api.ErrLong)
	goal(m, "when z =:= z then "+calls("apart", names...), api.ErrLong, api.ErrLong)
	goal(m, calls("apart", append(names[:15:15], "1")...), api.OK, api.OK)
	goal(m, calls("apart", names[:16]...), api.OK, api.ErrLong)
}

// P3.5: Infer and Uses are what the definitions say, for modules and expressions of all kinds.
func TestRandomInfer(t *testing.T) {
	r := rand.New(rand.NewSource(5))
	met := map[api.Errno]int{}
	uses, hidden := 0, 0
	for range 1500 {
		m := randomModule(t, r)
		for range 4 {
			x := randomTerm(t, r, m)
			whole, free, e := kind.Infer(m, x)
			list, f := kind.Uses(m, x)
			wantWhole, wantFree, wantUses, wantE, wantF := refInfer(m, x)
			if e != wantE || !sameType(whole, wantWhole) || !slices.EqualFunc(free, wantFree, sameType) {
				t.Fatal(e, wantE, show(m.Datas, whole), show(m.Datas, wantWhole), showTypes(m.Datas, free), showTypes(m.Datas, wantFree), showTerm(x), showModule(m))
			}
			if f != wantF || showUses(m, list) != showUses(m, wantUses) {
				t.Fatal(f, wantF, showUses(m, list), showUses(m, wantUses), showTerm(x), showModule(m))
			}
			met[e]++
			uses += len(list)
			for _, u := range list {
				hidden += len(u.Types)
			}
		}
	}
	t.Log(met, uses, hidden)
	if met[api.OK] < 1000 || met[api.ErrRule] < 300 || uses < 1000 || hidden < 1000 {
		t.Error("too few of some kind", met, uses, hidden)
	}
}
