package read_test

import (
	"strings"
	"testing"

	"swingle/api"
	"swingle/read"
)

// P2.2: the chapter's module.
func TestModule(t *testing.T) {
	want := `Bool/0 [] []
List/1 [] [?0 D1(?0)]
cons False/0 True/0 Nil/0 Cons/2
funs app/2 last/1 coin/0
0 [C2 v0] v0 1
0 [C3(v0 v1) v2] C3(v0 F0(v1 v2)) 3
1 [v0] when(unify(F0(v1 C3(v2 C2)) v0) v2) 3
2 [] or(i0 i1) 0`
	if got := showModule(listsModule(t)); got != want {
		t.Errorf("got\n%v\nwant\n%v", got, want)
	}
	spots, e := read.Spots(lists)
	if got := joined(spots, showSpot); e != api.OK || got != "3 3 4 4 5 5 6 6" {
		t.Error(got, e)
	}
}

// P2.2: modules, and where their rules stand.
func TestModules(t *testing.T) {
	for _, x := range []struct{ source, want, spots string }{
		{"", "Bool/0 [] []\ncons False/0 True/0\nfuns \n", ""},
		{"# nothing", "Bool/0 [] []\ncons False/0 True/0\nfuns \n", ""},
		{"f = 1;", "Bool/0 [] []\ncons False/0 True/0\nfuns f/0\n0 [] i1 0", "1 1"},
		// Rules and data types come in any order; a function is known before its first rule.
		{"f(A) = g;\n\ng =\n f(B(1,x)\n);data T=A|B(U,int);data U=C;\nf(x)=f;", `Bool/0 [] []
T/0 [] [D2 int]
U/0 []
cons False/0 True/0 A/0 B/2 C/0
funs f/1 g/0
0 [C2] F1 0
1 [] F0(C3(i1 v0)) 1
0 [v0] P0 1`, "1 1 3 5 6 6"},
		// A data type and a constructor can have one name; parameters; arrows go to the right.
		{"data A b c = A(b -> c -> b, (b -> c) -> b, A(c, A(int, Bool))) | B;", `Bool/0 [] []
A/2 [fun(?0 fun(?1 ?0)) fun(fun(?0 ?1) ?0) D1(?1 D1(int D0))] []
cons False/0 True/0 A/3 B/0
funs 
`, ""},
		// Names of types and of rules have nothing to do with each other.
		{"data False a = X(a); a(b) = int; int = a; c(x) = c;", `Bool/0 [] []
False/1 [?0]
cons False/0 True/0 X/1
funs a/1 int/0 c/1
0 [v0] F1 1
1 [] P0 0
2 [v0] P2 1`, "1 1 1 1 1 1"},
		// Variables are numbered in each rule anew, in the patterns first.
		{"data P = P(int, int);f(P(z,y),x)=P(x+a,y);f(x,y)=b;", `Bool/0 [] []
P/0 [int int]
cons False/0 True/0 P/2
funs f/2
0 [C2(v0 v1) v2] C2(add(v2 v3) v1) 4
0 [v0 v1] v2 3`, "1 1 1 1"},
		// A let hides a variable of the patterns.
		{"f(x) = (let x = x in x) ? x;", "Bool/0 [] []\ncons False/0 True/0\nfuns f/1\n0 [v0] or(let1(v0 v1) v0) 2", "1 1"},
	} {
		m, e := read.Module(x.source)
		spots, f := read.Spots(x.source)
		if e != api.OK || f != api.OK || showModule(m) != x.want || joined(spots, showSpot) != x.spots {
			t.Errorf("%v: %v %v %v, got\n%v\nwant\n%v", x.source, e, f, joined(spots, showSpot), showModule(m), x.want)
		}
	}
}

// checkModule fails if Module, or Spots, has another error.
func checkModule(t *testing.T, source string, want api.Errno) {
	t.Helper()
	m, e := read.Module(source)
	spots, f := read.Spots(source)
	if e != want || f != want {
		t.Errorf("%.300v: got %v %v, want %v", source, e, f, want)
	}
	if e != api.OK && (m.Datas != nil || showProgram(m.Prog) != showProgram(api.RuleProg{}) || spots != nil) {
		t.Errorf("%.300v: results with an error: %v %v", source, m, spots)
	}
}

// P2.2: each way in which a rule is broken, beside what is allowed.
func TestBrokenModules(t *testing.T) {
	for _, x := range []struct{ good, broken string }{
		// names of data types, and of constructors
		{"data Boo = A;", "data Bool = A;"},
		{"data Boo a = A;", "data Bool a = A;"},
		{"data T = A; data U = B;", "data T = A; data T = B;"},
		{"data False = A;", "data T = False;"},
		{"data True = A;", "data T = A | True(int);"},
		{"data T = Bool;", "data T = A | A;"},
		{"data T = A; data U = B;", "data T = A; data U = B | A(int);"},
		// parameters
		{"data T a b = A(b);", "data T a a = A(a);"},
		{"data T a b = A;", "data T a b a = A;"},
		{"data T a = A; data U a = B;", "data T a = A; data U int = B;"},
		{"data T inta = A;", "data T a int = A;"},
		// types
		{"data T a = A(a);", "data T a = A(b);"},
		{"data T = A(int);", "data T = A(a);"},
		{"data T a = A(a); data U b = B(b);", "data T a = A(a); data U b = B(a);"},
		{"data T = A(Bool);", "data T = A(Boo);"},
		{"data T = A(U); data U = B;", "data T = A(B); data U = B;"},
		{"data T = A(T);", "data T = A(T(int));"},
		{"data T a = A(T(a));", "data T a = A(T);"},
		{"data T a b = A(T(b, a));", "data T a b = A(T(a));"},
		{"data T a = A(T(a));", "data T a = A(T(a, a));"},
		{"data T = A(Bool -> int);", "data T = A(Bool -> Bool(int));"},
		{"data T = A((int -> int) -> int);", "data T = A((int -> a) -> int);"},
		// patterns
		{"f = 1; f = 2;", "f = 1; f(x) = x;"},
		{"f(x) = 1; g(x, y) = 2; f(x) = 3;", "f(x) = 1; g(x, y) = 2; f(x, y) = 3;"},
		{"f(g) = 1;", "f(f) = 1;"},
		{"f(g) = 1;", "f(g) = 1; g = 2;"},
		{"data T = A(int); f(A(g)) = 1;", "data T = A(int); f(A(g)) = 1; g = 2;"},
		{"f(x, y) = 1;", "f(x, x) = 1;"},
		{"data T = A(int, int); f(A(x, y)) = 1;", "data T = A(int, int); f(A(x, x)) = 1;"},
		{"data T = A(int); f(x, A(y)) = 1;", "data T = A(int); f(x, A(x)) = 1;"},
		{"f(True) = 1;", "f(Tru) = 1;"},
		{"f(False) = 1;", "f(Bool) = 1;"},
		{"f(True) = 1;", "f(True(x)) = 1;"},
		{"data T = A(int); f(A(x)) = 1;", "data T = A(int); f(A) = 1;"},
		{"data T = A(int); f(A(x)) = 1;", "data T = A(int); f(A(x, y)) = 1;"},
		// lets
		{"f = let x = 1 in x;", "f = let f = 1 in x;"},
		{"f = let g = 1 in x;", "f = let g = 1 in x; g = 2;"},
		{"f(x) = let x = 1 in let x = 2 in x;", "f(x) = let x = 1 in let f = 2 in x;"},
		// expressions
		{"f = True;", "f = Tru;"},
		{"f = False;", "f = Bool;"},
		{"f = True;", "f = True(1);"},
		{"data T = A(int); f = A(1);", "data T = A(int); f = A;"},
		{"data T = A(int); f = A(1);", "data T = A(int); f = A(1, 2);"},
		{"f = x;", "f = x(1);"},
		{"f(x) = x;", "f(x) = x(1);"},
		{"f = let x = 1 in x;", "f = let x = 1 in x(1);"},
		{"f = f;", "f = f(1);"},
		{"f(x, y) = f(1, 2);", "f(x, y) = f(1, 2, 3);"},
		{"f(x, y) = f(1);", "f(x, y) = 1 + (2 ? f(1, 2, 3));"},
	} {
		checkModule(t, x.good, api.OK)
		checkModule(t, x.broken, api.ErrRule)
	}
}

// P2.2: what the grammar does not have.
func TestModuleTexts(t *testing.T) {
	for _, source := range []string{
		"f", "f =", "f = 1", "f = 1;;", ";", "f = ;", "= 1;", "f 1;", "f = 1 2;", "f == 1;", "F = 1;", "F(x) = 1;", "1 = 1;", "let = 1;", "in = 1;", "f(in) = 1;", "f(then) = 1;",
		"f() = 1;", "f(x = 1;", "f(x,) = 1;", "f(,x) = 1;", "f(x y) = 1;", "f((x)) = 1;", "f(1) = 1;", "f(~1) = 1;", "f(g(x)) = 1;", "f(A()) = 1;", "f(A(1)) = 1;", "f(x ? y) = 1;", "f(x)(y) = 1;", "(f) = 1;",
		"data", "data T", "data T =", "data T = ;", "data T = A", "data t = A;", "data T = a;", "data T A = A;", "data T (a) = A;", "data T(a) = A;", "data T = | A;", "data T = A |;", "data T = A || B;", "data T = A, B;",
		"data T = A();", "data T = A(;", "data T = A(int;", "data T = A(1);", "data T = A(int,);", "data T = A(int int);", "data T = A int;", "data T = (A);", "data T = A(->);", "data T = A(int ->);", "data T = A(-> int);",
		"data T = A(a(int));", "data T = A(int(a));", "data T = A(());", "data T = A(T());", "data T = A((T);", "data T = A(T));", "data T = A(int -> int -> );", "data T a, b = A;", "data data = A;", "data T = data;",
		"data T = A f = 1;", "f = 1 data T = A;", "f = 1; %", "f = 1; abcdefghi = 2;", "f = 01;", "f = ~0;",
	} {
		checkModule(t, source, api.ErrText)
	}
}

// P2.2: which error comes first.
func TestModuleOrder(t *testing.T) {
	long := strings.Repeat(" ", api.ReadLong)
	big := "g = 1000001;"
	checkModule(t, "f = 1;"+long, api.ErrLong)
	checkModule(t, "f(1;%"+long, api.ErrLong)
	checkModule(t, "data Bool = A; f(1;", api.ErrText)
	checkModule(t, "data Bool = A; f = 1; %", api.ErrText)
	checkModule(t, big+"f = x(1);", api.ErrRule)
	checkModule(t, big+"data Bool = A;", api.ErrRule)
	checkModule(t, big, api.ErrArg)
	checkModule(t, "f = 1;"+long[6:], api.OK)
}

// numbered is so many texts, with their numbers as letters in place of %.
func numbered(n int, text string) []string {
	var list []string
	for i := range n {
		list = append(list, strings.ReplaceAll(text, "%", string([]byte{byte('a' + i/26), byte('a' + i%26)})))
	}
	return list
}

// many is so many texts, with what is between them.
func many(n int, text, between string) string { return strings.Join(numbered(n, text), between) }

// four is a tree of constructors with four arguments that has these leaves: the first ones are nearer to the top.
func four(leaves []string) string {
	if len(leaves) == 1 {
		return leaves[0]
	}
	return "Four(" + strings.Join(leaves[:3], ",") + "," + four(leaves[3:]) + ")"
}

// P2.2: what is read has to be formed: the limits, just met and just passed.
func TestModuleLimits(t *testing.T) {
	deep := func(n int) string { return tower(n-1, "S(", "x", ")") }
	nat := "data Nat = Z | S(Nat) | Two(Nat, Nat) | Four(Nat, Nat, Nat, Nat);"
	v19, v20 := four(numbered(19, "v%")), "Two("+four(numbered(19, "v%"))+",w)"
	v21 := "Two(" + v20 + ",x)"
	for _, x := range []struct{ good, bad string }{
		{many(5, "data T% = A%;", ""), many(6, "data T% = A%;", "")},
		{"data T = " + many(10, "A%", "|") + ";", "data T = " + many(11, "A%", "|") + ";"},
		{"data T = " + many(5, "A%", "|") + ";data U = " + many(5, "B%", "|") + ";", "data T = " + many(5, "A%", "|") + ";data U = " + many(6, "B%", "|") + ";"},
		{"data T a b c = A;", "data T a b c d = A;"},
		{"data T = A(int, int, int, int);", "data T = A(int, int, int, int, int);"},
		{"data T = A(" + many(10, "int", "->") + ");", "data T = A(" + many(11, "int", "->") + ");"},
		{"data T a = A(" + tower(17, "T(", "a->a", ")") + ");", "data T a = A(" + tower(18, "T(", "a->a", ")") + ");"},
		{"f(a, b, c, d) = 1;", "f(a, b, c, d, e) = 1;"},
		{many(8, "f% = 1;", ""), many(9, "f% = 1;", "")},
		{many(16, "f = 1;", ""), many(17, "f = 1;", "")},
		{"f = 1000000;", "f = 1000001;"},
		{"f = ~1000000;", "f = ~1000001;"},
		{"f = 999999;", "f = 9999999;"},
		{nat + "f = " + deep(12) + ";", nat + "f = " + deep(13) + ";"},
		{nat + "f(" + deep(12) + ") = 1;", nat + "f(" + deep(13) + ") = 1;"},
		{"f = " + many(12, "x", "?") + ";", "f = " + many(13, "x", "?") + ";"},
		// 37 nodes and 3, or 4, more
		{nat + "f = S(Two(1, " + four(numbered(28, "v")) + "));", nat + "f = S(Two(S(1), " + four(numbered(28, "v")) + "));"},
		// variables: in patterns, in the right side, of a let
		{nat + "f = " + v20 + ";", nat + "f = " + v21 + ";"},
		{nat + "f = let x = 1 in " + v19 + ";", nat + "f = let x = 1 in " + v20 + ";"},
		{nat + "f(" + v19 + ") = x;", nat + "f(" + v20 + ") = x;"},
		{nat + "f(" + v20 + ") = " + v20 + ";", nat + "f(" + v20 + ") = let x = 1 in 2;"},
		{nat + "f(" + v20 + ") = 1;", nat + "f(" + v21 + ") = 1;"},
	} {
		checkModule(t, x.good, api.OK)
		checkModule(t, x.bad, api.ErrArg)
	}
	// Brackets are in no expression.
	checkModule(t, "f = "+tower(1000, "(", "1", ")")+";", api.OK)
	checkModule(t, "f = "+tower(590, "(1?", "1", ")")+";", api.ErrArg)
}
