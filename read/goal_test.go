package read_test

import (
	"strings"
	"testing"

	"swingle/api"
	"swingle/read"
)

// checkGoal fails if Goal returns something else; with an error, want is empty.
func checkGoal(t *testing.T, p api.RuleProg, source, want, names string, e api.Errno) {
	t.Helper()
	got, vars, f := read.Goal(p, source)
	if f != e || show(got) != want || strings.Join(vars, " ") != names || e != api.OK && vars != nil {
		t.Errorf("%.300v: got %v %q %v, want %v %q %v", source, f, show(got), vars, e, want, names)
	}
}

// P2.2: the chapter's goals, and others, with its module.
func TestGoal(t *testing.T) {
	p := listsModule(t).Prog
	for _, x := range []struct{ source, want, names string }{
		{"app(x, y) =:= Cons(1, Nil) & coin < 1", "both(unify(F0(v0 v1) C3(i1 C2)) less(F2 i1))", "x y"},
		{"app", "P0", ""},
		{"app(Nil)", "P0(C2)", ""},
		{"app(Nil, x)", "F0(C2 v0)", "x"},
		{"app @ Nil", "apply(P0 C2)", ""},
		{"let x = x in x ? x", "let0(v1 or(v0 v0))", "x x"},
		{"coin", "F2", ""},
		{"last", "P1", ""},
		{"False", "C0", ""},
		{"True", "C1", ""},
		{"~1000000", "i-1000000", ""},
		{"1000000", "i1000000", ""},
		{"0", "i0", ""},
		{"((x))", "v0", "x"},
		// operators: which goes first, and which way they go
		{"a ? b ? c", "or(v0 or(v1 v2))", "a b c"},
		{"(a ? b) ? c", "or(or(v0 v1) v2)", "a b c"},
		{"a & b & c", "both(v0 both(v1 v2))", "a b c"},
		{"a - b - c", "sub(sub(v0 v1) v2)", "a b c"},
		{"a + b - c + d", "add(sub(add(v0 v1) v2) v3)", "a b c d"},
		{"1 - (2 - 3)", "sub(i1 sub(i2 i3))", ""},
		{"a @ b @ c", "apply(apply(v0 v1) v2)", "a b c"},
		{"a @ (b @ c)", "apply(v0 apply(v1 v2))", "a b c"},
		{"a ? b & c =:= d + e @ f", "or(v0 both(v1 unify(v2 add(v3 apply(v4 v5)))))", "a b c d e f"},
		{"a @ b - c < d & e ? f", "or(both(less(sub(apply(v0 v1) v2) v3) v4) v5)", "a b c d e f"},
		{"a & b ? c & d", "or(both(v0 v1) both(v2 v3))", "a b c d"},
		{"a == b & c < d", "both(same(v0 v1) less(v2 v3))", "a b c d"},
		{"(a == b) == c", "same(same(v0 v1) v2)", "a b c"},
		{"a == (b < c)", "same(v0 less(v1 v2))", "a b c"},
		{"(a & b) + c", "add(both(v0 v1) v2)", "a b c"},
		// let and when go as far as they can
		{"when a then b ? c", "when(v0 or(v1 v2))", "a b c"},
		{"when a ? b then when c then d", "when(or(v0 v1) when(v2 v3))", "a b c d"},
		{"when when a then b then c", "when(when(v0 v1) v2)", "a b c"},
		{"when let x = a in x then x", "when(let0(v1 v0) v2)", "x a x"},
		{"let x = let y = 1 in y in x", "let0(let1(i1 v1) v0)", "x y"},
		{"let x = when a then b in x", "let0(when(v1 v2) v0)", "x a b"},
		{"(when a then b) ? c", "or(when(v0 v1) v2)", "a b c"},
		{"a ? (let b = 1 in b)", "or(v0 let1(i1 v1))", "a b"},
		{"Cons(let x = 1 in x, when a then b)", "C3(let0(i1 v0) when(v1 v2))", "x a b"},
		// names of lets
		{"let x = 1 in let x = x in x", "let0(i1 let1(v0 v1))", "x x"},
		{"x ? (let x = x in x) ? x", "or(v0 or(let1(v0 v1) v0))", "x x"},
		{"(let x = 1 in x) ? x ? (let x = 2 in x) ? x", "or(let0(i1 v0) or(v1 or(let2(i2 v2) v1)))", "x x x"},
		{"(let x = y in y) ? y", "or(let0(v1 v1) v1)", "x y"},
		{"let x = (let y = x in y) in y", "let0(let1(v2 v1) v3)", "x y x y"},
		{"let x = 1 in (let y = x in x @ y) @ y", "let0(i1 apply(let1(v0 apply(v0 v1)) v2))", "x y y"},
	} {
		checkGoal(t, p, x.source, x.want, x.names, api.OK)
	}
}

// P2.2: a program whose names are none that a source could have.
func TestGoalNames(t *testing.T) {
	p := api.RuleProg{Sig: api.TermSig{
		Cons: []api.TermName{{Name: "False"}, {Name: "True"}, {Name: "nil"}, {Name: "in", Args: 1}, {Name: "cAr"}, {Name: "Pair", Args: 2}},
		Funs: []api.TermName{{Name: "App", Args: 1}, {Name: "let"}, {Name: "idA"}, {Name: "id", Args: 1}},
	}}
	checkGoal(t, p, "Pair(nil, id)", "C5(v0 P3)", "nil", api.OK)
	checkGoal(t, p, "App", "", "", api.ErrRule)
	checkGoal(t, p, "App(1)", "", "", api.ErrRule)
	checkGoal(t, p, "nil(1)", "", "", api.ErrRule)
	checkGoal(t, p, "let", "", "", api.ErrText)
	checkGoal(t, p, "in(1)", "", "", api.ErrText)
}

// P2.2: goals that are none, and which error comes first.
func TestBrokenGoals(t *testing.T) {
	p := listsModule(t).Prog
	long := strings.Repeat(" ", api.ReadLong)
	for _, source := range []string{
		"", " ", "# x", "a < b < c", "a == b == c", "a =:= b < c", "a b", "a,", "a;", "(a", "a)", "()", "(a, b)", "app()", "app(a,)", "app(,a)", "app(a b)", "app(a", "app(a))", "app(a)(b)", "Cons()", "Nil()", "1(a)", "(app)(a)",
		"+ a", "a +", "a + + b", "- 1", "a - - b", "a ? ? b", "? a", "a ?", "a & ", "& a", "a @", "@ a", "a = b", "a -> b", "a | b", "a =:=", "< a",
		"let", "let x", "let x = 1", "let x = 1 in", "let x 1 in x", "let X = 1 in x", "let 1 = 1 in x", "let in = 1 in x", "let f(x) = 1 in x", "let (x) = 1 in x", "let x = in x", "let x = 1 then x", "let x == 1 in x",
		"when", "when a", "when a then", "when then a", "when a in b", "a ? let x = 1 in x", "a ? when b then c", "let x = 1 in x in x", "when a then b then c", "1 + let x = 1 in x", "app @ when a then b", "a & when b then c",
		"data", "in", "then", "data T = A;", "f = 1;", "a %", "% a", "~0", "01", "abcdefghi", "12345678",
	} {
		checkGoal(t, p, source, "", "", api.ErrText)
	}
	for _, source := range []string{
		"app(x, y, z)", "x(1)", "let coin = 1 in 2", "let app = 1 in 2", "let x = 1 in x(2)", "coin(1)", "last(x, y)", "List", "Bool", "Cons", "Cons(x)", "Cons(x, y, z)", "Nil(x)", "True(x)", "Tru", "x ? y & coin(1)", "Cons(x, Cons)", "let x = x(1) in x", "when x then List", "app(Cons, Nil)",
	} {
		checkGoal(t, p, source, "", "", api.ErrRule)
	}
	for source, e := range map[string]api.Errno{
		"x" + long:                          api.ErrLong,
		"%" + long:                          api.ErrLong,
		"x(1) %":                            api.ErrText,
		"x(1) ?":                            api.ErrText,
		"9999999 ? x(1)":                    api.ErrRule,
		"1000001":                           api.ErrArg,
		"~1000001":                          api.ErrArg,
		many(21, "x%", "?"):                 api.ErrArg,
		many(13, "x", "?"):                  api.ErrArg,
		many(13, "x", "@"):                  api.ErrArg,
		tower(12, "last(", "x", ")"):        api.ErrArg,
		many(12, "let x = 1 in ", "") + "2": api.ErrArg,
	} {
		checkGoal(t, p, source, "", "", e)
	}
	checkGoal(t, p, "x"+long[1:], "v0", "x", api.OK)
	checkGoal(t, p, many(12, "x", "?"), tower(10, "or(v0 ", "or(v0 v0)", ")"), "x", api.OK)
	checkGoal(t, p, tower(11, "last(", "x", ")"), tower(11, "F1(", "v0", ")"), "x", api.OK)
	checkGoal(t, p, tower(1400, "(", "x", ")"), "v0", "x", api.OK)
	// Twenty variables, and one more, of which ten are lets' ones.
	lets := many(10, "let a% = b% in ", "")
	if _, names, e := read.Goal(p, lets+"baa"); e != api.OK || strings.Join(names, " ") != "aaa baa aab bab aac bac aad bad aae bae aaf baf aag bag aah bah aai bai aaj baj" {
		t.Error(names, e)
	}
	checkGoal(t, p, lets+"c", "", "", api.ErrArg)
}

// P2.2: types with the chapter's module.
func TestType(t *testing.T) {
	datas := append(listsModule(t).Datas, api.KindData{Name: "Two", Params: 2, Cons: [][]api.KindType{nil}}, api.KindData{Name: "small", Cons: [][]api.KindType{nil}})
	long := strings.Repeat(" ", api.ReadLong)
	for _, x := range []struct {
		source, want string
		e            api.Errno
	}{
		{"(a -> b) -> List(a) -> int", "fun(fun(?0 ?1) fun(D1(?0) int))", api.OK},
		{"List", "", api.ErrRule},
		{"b", "?0", api.OK},
		{"int", "int", api.OK},
		{"Bool", "D0", api.OK},
		{"Two(b, Two(a, b))", "D2(?0 D2(?1 ?0))", api.OK},
		{"a -> b -> a", "fun(?0 fun(?1 ?0))", api.OK},
		{"((a -> b)) -> a", "fun(fun(?0 ?1) ?0)", api.OK},
		{"((a))", "?0", api.OK},
		{"List(a -> a)", "D1(fun(?0 ?0))", api.OK},
		{"small", "?0", api.OK},
		{"Lis", "", api.ErrRule},
		{"Small", "", api.ErrRule},
		{"List(a, b)", "", api.ErrRule},
		{"Two(a)", "", api.ErrRule},
		{"Bool(a)", "", api.ErrRule},
		{"a -> Nil", "", api.ErrRule},
		{"Bool" + long[4:], "D0", api.OK},
		{"Bool" + long, "", api.ErrLong},
		{"%" + long, "", api.ErrLong},
		{many(10, "a%", "->"), "fun(?0 fun(?1 fun(?2 fun(?3 fun(?4 fun(?5 fun(?6 fun(?7 fun(?8 ?9)))))))))", api.OK},
		{many(11, "a%", "->"), "", api.ErrArg},
		{tower(19, "List(", "x", ")"), tower(19, "D1(", "?0", ")"), api.OK},
		{tower(20, "List(", "x", ")"), "", api.ErrArg},
		{tower(490, "List(", "List", ")"), "", api.ErrRule},
		{tower(300, "(", "a ->", "b)"), "", api.ErrText},
	} {
		got, e := read.Type(datas, x.source)
		if e != x.e || e == api.OK && showType(got) != x.want || e != api.OK && showType(got) != showType(api.KindType{}) {
			t.Errorf("%.300v: got %v %v, want %v %v", x.source, e, showType(got), x.e, x.want)
		}
	}
	for _, source := range []string{"", "a b", "a ->", "-> a", "a -> -> b", "(a", "a)", "()", "List()", "List(a", "List(a,)", "List(,a)", "List a", "a(b)", "int(a)", "(List)(a)", "1", "in", "data", "a, b", "List(a);", "a | b", "a = b", "Lis(%)", "List(a) %", "a ? b"} {
		if got, e := read.Type(datas, source); e != api.ErrText || showType(got) != showType(api.KindType{}) {
			t.Errorf("%v: got %v %v", source, e, showType(got))
		}
	}
}
