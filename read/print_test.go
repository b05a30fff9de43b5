package read_test

import (
	"math/rand"
	"slices"
	"strings"
	"testing"

	"swingle/api"
	"swingle/read"
	"swingle/term"
)

// P2.4: the chapter's module.
func TestPrintModule(t *testing.T) {
	want := `data List a = Nil | Cons(a, List(a));
app(Nil, a) = a;
app(Cons(a, b), c) = Cons(a, app(b, c));
last(a) = when app(b, Cons(c, Nil)) =:= a then c;
coin = 0 ? 1;
`
	if got, e := read.PrintModule(listsModule(t)); e != api.OK || got != want {
		t.Errorf("%v %v", e, got)
	}
}

// P2.4: modules that are read, and printed.
func TestPrintedModules(t *testing.T) {
	for _, x := range []struct{ source, want string }{
		{"", ""},
		{"f=1;data A=A;", "data A = A;\nf = 1;\n"},
		{"data T x y z=A|B(x,y->z->x,(y->z)->x,U);data U=C(int,Bool);", "data T a b c = A | B(a, b -> c -> a, (b -> c) -> a, U);\ndata U = C(int, Bool);\n"},
		{"data T x y=A(((x->x)->(int))->(T((y->x),(x->x)->x)));", "data T a b = A(((a -> a) -> int) -> T(b -> a, (a -> a) -> a));\n"},
		{"data False z=X;", "data False a = X;\n"},
		{"f=1;g=2;f=3;", "f = 1;\ng = 2;\nf = 3;\n"},
		{"f(x,True,y)=let z=(let u=x in u)in(when z then(when v then f(x,y)@ ~7));", "f(a, True, b) = let c = let d = a in d in when c then when e then f(a, b) @ ~7;\n"},
		{"f(x)=int;g(int)=int;", "f(a) = b;\ng(a) = a;\n"},
		// Names of functions are no names of variables.
		{"a(x,y)=a(z)?c;c=u@v;int=x;", "a(b, d) = a(e) ? c;\nc = b @ d;\nint = b;\n"},
		{"b=let x=y in x;d=1;", "b = let a = c in a;\nd = 1;\n"},
	} {
		m, e := read.Module(x.source)
		if got, f := read.PrintModule(m); e != api.OK || f != api.OK || got != x.want {
			t.Errorf("%v %v: got\n%v\nwant\n%v", e, f, got, x.want)
		}
	}
}

// P2.4: expressions: what each operation is like, and where brackets are.
func TestPrintGoal(t *testing.T) {
	p := listsModule(t).Prog
	for _, x := range []struct{ source, want string }{
		{"(a ? b) ? c", "(a ? b) ? c"},
		{"a ? (b ? c)", "a ? b ? c"},
		{"1 - (2 - 3)", "1 - (2 - 3)"},
		{"(1 - 2) - 3", "1 - 2 - 3"},
		{"(a & b) & c", "(a & b) & c"},
		{"a & (b & c)", "a & b & c"},
		{"(a @ b) @ (c @ d)", "a @ b @ (c @ d)"},
		{"(a + b) - (c + d)", "a + b - (c + d)"},
		{"(a =:= b) =:= (c == d)", "(a =:= b) =:= (c == d)"},
		{"(a < b) & (c ? d)", "a < b & (c ? d)"},
		{"(a & b) ? (c & d)", "a & b ? c & d"},
		{"(a + b) < (c - d)", "a + b < c - d"},
		{"(a < b) + c", "(a < b) + c"},
		{"(a @ b) + (c @ d)", "a @ b + c @ d"},
		{"(a + b) @ (c + d)", "(a + b) @ (c + d)"},
		{"((app)) @ (Nil) @ (last(x)) @ (1)", "app @ Nil @ last(a) @ 1"},
		{"when (a ? b) then (c ? d)", "when a ? b then c ? d"},
		{"when (when a then b) then (when c then d)", "when when a then b then when c then d"},
		{"(when a then b) ? (when c then d)", "(when a then b) ? (when c then d)"},
		{"let x = (let y = a in y) in (let z = b in x)", "let a = let b = c in b in let d = e in a"},
		{"(let x = a in x) & b", "(let a = b in a) & c"},
		{"a & (let x = a in x)", "a & (let b = a in b)"},
		{"a =:= (let x = a in x)", "a =:= (let b = a in b)"},
		{"a + (when b then c)", "a + (when b then c)"},
		{"(when b then c) @ a", "(when a then b) @ c"},
		{"app((a ? b), (when a then b))", "app(a ? b, when a then b)"},
		{"Cons((let x = 1 in x), Nil)", "Cons(let a = 1 in a, Nil)"},
		{"last", "last"},
		{"coin", "coin"},
		{"~1000000 - 1000000 + 0", "~1000000 - 1000000 + 0"},
		{"let x = x in x ? x", "let a = b in a ? a"},
	} {
		made, _, e := read.Goal(p, x.source)
		if got, f := read.PrintGoal(p, made); e != api.OK || f != api.OK || got != x.want {
			t.Errorf("%v %v %v: got %v, want %v", x.source, e, f, got, x.want)
		}
	}
}

// P2.4: the variable n has the name n, also where it is not in order, and whoever binds it.
func TestPrintNames(t *testing.T) {
	p := listsModule(t).Prog
	q, u := api.RuleProg{Sig: api.TermSig{Cons: p.Sig.Cons}}, api.RuleProg{Sig: api.TermSig{Cons: p.Sig.Cons}}
	for c := range 7 {
		q.Sig.Funs = append(q.Sig.Funs, api.TermName{Name: "acehjtz"[c : c+1]})
		u.Sig.Funs = append(u.Sig.Funs, api.TermName{Name: "abcdefg"[c : c+1]})
	}
	q.Sig.Funs = append(q.Sig.Funs, api.TermName{Name: "aa"})
	for _, x := range []struct {
		p    api.RuleProg
		t    api.Term
		want string
	}{
		{p, v(19), "t"},
		{p, or(v(2), v(0)), "c ? a"},
		{p, let(0, v(0), v(0)), "let a = a in a"},
		{p, let(3, num(1), let(3, v(3), or(v(3), v(1)))), "let d = 1 in let d = d in d ? b"},
		{q, or(v(0), or(v(1), v(19))), "b ? d ? ab"},
		{q, or(v(17), or(v(18), node(api.TermFun, 6))), "x ? y ? z"},
		{u, or(v(0), or(v(18), v(19))), "h ? z ? aa"},
	} {
		if got, e := read.PrintGoal(x.p, x.t); e != api.OK || got != x.want {
			t.Errorf("%v: got %v %v, want %v", show(x.t), e, got, x.want)
		}
	}
}

// P2.4: types.
func TestPrintType(t *testing.T) {
	datas := listsModule(t).Datas
	for _, x := range []struct {
		t    api.KindType
		want string
	}{
		{typeVar(19), "t"},
		{integers(), "int"},
		{ofData(0), "Bool"},
		{ofData(1, arrow(typeVar(1), typeVar(0))), "List(b -> a)"},
		{arrow(arrow(typeVar(0), typeVar(1)), arrow(ofData(1, typeVar(0)), integers())), "(a -> b) -> List(a) -> int"},
		{arrow(arrow(arrow(typeVar(0), typeVar(1)), typeVar(2)), typeVar(3)), "((a -> b) -> c) -> d"},
		{arrow(typeVar(0), arrow(arrow(typeVar(1), typeVar(2)), typeVar(3))), "a -> (b -> c) -> d"},
	} {
		if got, e := read.PrintType(datas, x.t); e != api.OK || got != x.want {
			t.Errorf("%v: got %v %v, want %v", showType(x.t), e, got, x.want)
		}
	}
}

// P2.4: names that no source can have.
func TestPrintBadNames(t *testing.T) {
	m := listsModule(t)
	for _, x := range []struct {
		change             func(m *api.ReadModule)
		module, goal, kind api.Errno
	}{
		{func(m *api.ReadModule) {}, api.OK, api.OK, api.OK},
		{func(m *api.ReadModule) { m.Datas[1].Name = "Abcdefgh" }, api.OK, api.OK, api.OK},
		{func(m *api.ReadModule) { m.Datas[1].Name = "list" }, api.ErrRule, api.OK, api.ErrRule},
		{func(m *api.ReadModule) { m.Datas[1].Name = "LisT" }, api.ErrRule, api.OK, api.ErrRule},
		{func(m *api.ReadModule) { m.Datas[1].Name = "LL" }, api.ErrRule, api.OK, api.ErrRule},
		{func(m *api.ReadModule) { m.Prog.Sig.Cons[3].Name = "cons" }, api.ErrRule, api.ErrRule, api.OK},
		{func(m *api.ReadModule) { m.Prog.Sig.Cons[2].Name = "nIl" }, api.ErrRule, api.ErrRule, api.OK},
		{func(m *api.ReadModule) { m.Prog.Sig.Cons[2].Name = "NIl" }, api.ErrRule, api.ErrRule, api.OK},
		{func(m *api.ReadModule) { m.Prog.Sig.Cons[2].Name = "List" }, api.OK, api.OK, api.OK},
		{func(m *api.ReadModule) { m.Prog.Sig.Funs[2].Name = "Coin" }, api.ErrRule, api.ErrRule, api.OK},
		{func(m *api.ReadModule) { m.Prog.Sig.Funs[2].Name = "coIn" }, api.ErrRule, api.ErrRule, api.OK},
		{func(m *api.ReadModule) { m.Prog.Sig.Funs[2].Name = "data" }, api.ErrRule, api.ErrRule, api.OK},
		{func(m *api.ReadModule) { m.Prog.Sig.Funs[2].Name = "let" }, api.ErrRule, api.ErrRule, api.OK},
		{func(m *api.ReadModule) { m.Prog.Sig.Funs[2].Name = "in" }, api.ErrRule, api.ErrRule, api.OK},
		{func(m *api.ReadModule) { m.Prog.Sig.Funs[2].Name = "when" }, api.ErrRule, api.ErrRule, api.OK},
		{func(m *api.ReadModule) { m.Prog.Sig.Funs[2].Name = "then" }, api.ErrRule, api.ErrRule, api.OK},
		{func(m *api.ReadModule) { m.Prog.Sig.Funs[2].Name = "abcdefgh" }, api.OK, api.OK, api.OK},
		{func(m *api.ReadModule) { m.Prog.Sig.Funs[2].Name = "int" }, api.OK, api.OK, api.OK},
		// functions without rules, or in another order
		{func(m *api.ReadModule) { m.Prog.Rules = m.Prog.Rules[:3] }, api.ErrRule, api.OK, api.OK},
		{func(m *api.ReadModule) { m.Prog.Rules = m.Prog.Rules[1:] }, api.OK, api.OK, api.OK},
		{func(m *api.ReadModule) { m.Prog.Rules = m.Prog.Rules[2:] }, api.ErrRule, api.OK, api.OK},
		{func(m *api.ReadModule) { m.Prog.Rules = nil }, api.ErrRule, api.OK, api.OK},
		{func(m *api.ReadModule) { m.Prog.Rules[2], m.Prog.Rules[3] = m.Prog.Rules[3], m.Prog.Rules[2] }, api.ErrRule, api.OK, api.OK},
		{func(m *api.ReadModule) { m.Prog.Rules[1], m.Prog.Rules[3] = m.Prog.Rules[3], m.Prog.Rules[1] }, api.ErrRule, api.OK, api.OK},
		{func(m *api.ReadModule) { m.Prog.Rules[1], m.Prog.Rules[2] = m.Prog.Rules[2], m.Prog.Rules[1] }, api.OK, api.OK, api.OK},
	} {
		changed, e := read.Normal(m)
		if e != api.OK {
			t.Fatal(e)
		}
		x.change(&changed)
		text, e := read.PrintModule(changed)
		goal, f := read.PrintGoal(changed.Prog, num(1))
		kind, g := read.PrintType(changed.Datas, integers())
		if e != x.module || f != x.goal || g != x.kind || (e != api.OK) != (text == "") || (f != api.OK) != (goal == "") || (g != api.OK) != (kind == "") {
			t.Errorf("%v: %v %q, %v %q, %v %q", showModule(changed), e, text, f, goal, g, kind)
		}
	}
}

// wide is a module whose source, as it is printed, is rather long; each time it has one digit more.
func wide(digits int) string {
	pattern := "C(" + many(4, "C(L,L,L,L)", ",") + ")"
	source := "data P=L|C(P,P,P,P);"
	for range 11 {
		more := min(digits, 5)
		digits -= more
		source += "ffffffff(" + many(4, pattern, ",") + ")=1" + strings.Repeat("1", more) + ";"
	}
	return source
}

// P2.4: the longest source that is printed, and one byte more.
func TestPrintLong(t *testing.T) {
	text, e := read.PrintModule(mustModule(t, wide(0)))
	if e != api.OK {
		t.Fatal(e)
	}
	missing := api.ReadLong - len(text)
	if text, e := read.PrintModule(mustModule(t, wide(missing))); e != api.OK || len(text) != api.ReadLong {
		t.Error(missing, e, len(text))
	}
	if text, e := read.PrintModule(mustModule(t, wide(missing+1))); e != api.ErrLong || text != "" {
		t.Error(missing, e, len(text))
	}
}

// layout puts tokens together with the blanks that the chapter asks for.
func layout(list []api.ReadToken) string {
	text := ""
	data := false
	for _, token := range list {
		both := slices.Contains([]string{"=", "=:=", "==", "<", "+", "-", "?", "&", "@", "|", "->"}, token.Text)
		data = token.Text == "data" || data && token.Text != "="
		parameter := data && token.Kind == api.ReadName
		before := both || parameter || token.Text == "in" || token.Text == "then"
		if before && !strings.HasSuffix(text, " ") {
			text += " "
		}
		text += token.Text
		switch {
		case both || token.Text == "," || token.Kind == api.ReadWord:
			text += " "
		case token.Text == ";":
			text += "\n"
		}
	}
	return text
}

// checkLayout fails if a text has other blanks.
func checkLayout(t *testing.T, text string) {
	t.Helper()
	list, e := read.Tokens(text)
	if want := layout(list); e != api.OK || text != want {
		t.Errorf("%v: got\n%q\nwant\n%q", e, text, want)
	}
}

// pairs returns the places of the brackets of a text, and of those that close them.
func pairs(text string) [][2]int {
	var open []int
	var list [][2]int
	for i := range len(text) {
		switch text[i] {
		case '(':
			open = append(open, i)
		case ')':
			list = append(list, [2]int{open[len(open)-1], i})
			open = open[:len(open)-1]
		}
	}
	return list
}

// without has blanks in place of a pair of brackets.
func without(text string, pair [2]int) string {
	bytes := []byte(text)
	bytes[pair[0]], bytes[pair[1]] = ' ', ' '
	return string(bytes)
}

// P2.4: random expressions: what was printed is read as what it was, in order, and needs all its brackets.
func TestRandomGoals(t *testing.T) {
	r := rand.New(rand.NewSource(3))
	p := api.RuleProg{Sig: randomSig()}
	for range 5000 {
		made := randomFormed(r, p.Sig, 1+r.Intn(7), allVars()[:1+r.Intn(api.TermVars)])
		text, e := read.PrintGoal(p, made)
		if e != api.OK {
			t.Fatal(e, show(made))
		}
		checkLayout(t, text)
		want, e := term.Order(p.Sig, made)
		got, names, f := read.Goal(p, text)
		if e == api.ErrLong {
			e = api.ErrArg
		}
		if f != e || f == api.OK && show(got) != show(want) {
			t.Fatalf("%v: got %v %v, want %v %v", text, f, show(got), e, show(want))
		}
		checkNames(t, made, names, f)
		for _, pair := range pairs(text) {
			if less, _, e := read.Goal(p, without(text, pair)); f == api.OK && e == api.OK && show(less) == show(got) {
				t.Fatalf("%v: the brackets %v can be left out", text, pair)
			}
		}
	}
}

// checkNames fails if the names that were read are not those of the variables, as they come first.
func checkNames(t *testing.T, made api.Term, got []string, e api.Errno) {
	t.Helper()
	if e != api.OK {
		return
	}
	all := strings.Fields("a c d e g h i j k l m n o p q r s t u v")
	var names []string
	free := map[int]bool{}
	var walk func(x api.Term, bound []int)
	walk = func(x api.Term, bound []int) {
		if x.Op == api.TermLet || x.Op == api.TermVar && !slices.Contains(bound, x.N) && !free[x.N] {
			names = append(names, all[x.N])
		}
		if x.Op == api.TermVar && !slices.Contains(bound, x.N) {
			free[x.N] = true
		}
		for i, k := range x.Kids {
			if x.Op == api.TermLet && i == 1 {
				bound = append(slices.Clone(bound), x.N)
			}
			walk(k, bound)
		}
	}
	walk(made, nil)
	sameTexts(t, show(made), got, names)
}

// P2.4: random types.
func TestRandomTypes(t *testing.T) {
	r := rand.New(rand.NewSource(4))
	datas := listsModule(t).Datas
	for range 5000 {
		made := randomType(r, 1+r.Intn(5), 1+r.Intn(api.KindVars))
		text, e := read.PrintType(datas, made)
		if typeSize(made) > api.KindNodes {
			if e != api.ErrArg {
				t.Error(e, showType(made))
			}
			continue
		}
		checkLayout(t, text)
		got, f := read.Type(datas, text)
		if e != api.OK || f != api.OK || showType(got) != showType(typeInOrder(made)) {
			t.Fatalf("%v: %v %v, got %v, want %v", text, e, f, showType(got), showType(made))
		}
		for _, pair := range pairs(text) {
			if less, e := read.Type(datas, without(text, pair)); e == api.OK && showType(less) == showType(got) {
				t.Fatalf("%v: the brackets %v can be left out", text, pair)
			}
		}
	}
}

func typeSize(x api.KindType) int {
	n := 1
	for _, p := range x.Parts {
		n += typeSize(p)
	}
	return n
}

// typeInOrder numbers type variables as they come first.
func typeInOrder(x api.KindType) api.KindType {
	numbers := map[int]int{}
	var walk func(x api.KindType) api.KindType
	walk = func(x api.KindType) api.KindType {
		if x.Sort == api.KindVar {
			if _, ok := numbers[x.N]; !ok {
				numbers[x.N] = len(numbers)
			}
			return typeVar(numbers[x.N])
		}
		return api.KindType{Sort: x.Sort, N: x.N, Parts: each(x.Parts, walk)}
	}
	return walk(x)
}

// P2.2, P2.4: the example of README.md.
func TestReadme(t *testing.T) {
	m := mustModule(t, "data Nat = Z | S(Nat); add(Z, y) = y; add(S(x), y) = S(add(x, y));")
	goal, names, e := read.Goal(m.Prog, "add(n, m) =:= S(Z)")
	text, f := read.PrintGoal(m.Prog, goal)
	sameTexts(t, "names", names, []string{"n", "m"})
	if e != api.OK || f != api.OK || text != "add(a, b) =:= S(Z)" {
		t.Error(e, f, text)
	}
}
