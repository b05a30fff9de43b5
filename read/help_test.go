package read_test

import (
	"math/rand"
	"slices"
	"strconv"
	"strings"
	"testing"

	"swingle/api"
	"swingle/build"
	"swingle/read"
	"swingle/term"
)

// lists is the source of the chapter's examples.
const lists = `# lists
data List a = Nil | Cons(a, List(a));
app(Nil, y) = y;
app(Cons(h, t), y) = Cons(h, app(t, y));
last(l) = when app(z, Cons(x, Nil)) =:= l then x;
coin = 0 ? 1;
`

func mustModule(t *testing.T, source string) api.ReadModule {
	t.Helper()
	m, e := read.Module(source)
	if e != api.OK {
		t.Fatal(e, source)
	}
	return m
}

// listsModule is the module of the source lists.
func listsModule(t *testing.T) api.ReadModule { return mustModule(t, lists) }

// Short names.
var (
	node     = build.Node
	v        = build.Var
	num      = build.Num
	con      = build.Con
	or       = build.Or
	let      = build.Let
	typeVar  = build.TypeVar
	integers = build.Integers
	arrow    = build.Arrow
	ofData   = build.OfData
)

// tower is so many brackets around a text: begin on its left, end on its right.
func tower(high int, begin, text, end string) string {
	return strings.Repeat(begin, high) + text + strings.Repeat(end, high)
}

// opNames are the names by which terms are shown.
var opNames = map[api.TermOp]string{
	api.TermVar: "v", api.TermInt: "i", api.TermCon: "C", api.TermFun: "F", api.TermPart: "P", api.TermApply: "apply", api.TermOr: "or", api.TermLet: "let",
	api.TermWhen: "when", api.TermBoth: "both", api.TermUnify: "unify", api.TermSame: "same", api.TermAdd: "add", api.TermSub: "sub", api.TermLess: "less", api.TermBot: "bot",
}

// show writes a term such that different terms are different texts.
func show(t api.Term) string {
	text := opNames[t.Op]
	if t.N != 0 || t.Op == api.TermVar || t.Op == api.TermInt || t.Op == api.TermCon || t.Op == api.TermFun || t.Op == api.TermPart || t.Op == api.TermLet {
		text += strconv.Itoa(t.N)
	}
	if len(t.Kids) == 0 {
		return text
	}
	return text + "(" + joined(t.Kids, show) + ")"
}

func joined[T any](list []T, of func(T) string) string {
	var texts []string
	for _, x := range list {
		texts = append(texts, of(x))
	}
	return strings.Join(texts, " ")
}

func showType(t api.KindType) string {
	text := "sort" + strconv.Itoa(int(t.Sort)) + "." + strconv.Itoa(t.N)
	switch {
	case t.Sort == api.KindVar:
		text = "?" + strconv.Itoa(t.N)
	case t.Sort == api.KindInt && t.N == 0:
		text = "int"
	case t.Sort == api.KindFun && t.N == 0:
		text = "fun"
	case t.Sort == api.KindOfData:
		text = "D" + strconv.Itoa(t.N)
	}
	if len(t.Parts) == 0 {
		return text
	}
	return text + "(" + joined(t.Parts, showType) + ")"
}

func showName(n api.TermName) string { return n.Name + "/" + strconv.Itoa(n.Args) }

func showTypes(l []api.KindType) string { return "[" + joined(l, showType) + "]" }

func showData(d api.KindData) string {
	return d.Name + "/" + strconv.Itoa(d.Params) + " " + joined(d.Cons, showTypes)
}

func showRule(r api.RuleRule) string {
	return strconv.Itoa(r.Fun) + " [" + joined(r.Pats, show) + "] " + show(r.Rhs) + " " + strconv.Itoa(r.Vars)
}

func showProgram(p api.RuleProg) string {
	return "cons " + joined(p.Sig.Cons, showName) + "\nfuns " + joined(p.Sig.Funs, showName) + "\n" + strings.Join(each(p.Rules, showRule), "\n")
}

func showModule(m api.ReadModule) string {
	return strings.Join(each(m.Datas, showData), "\n") + "\n" + showProgram(m.Prog)
}

func showSpot(s api.ReadSpot) string { return strconv.Itoa(s.From) + " " + strconv.Itoa(s.To) }

func each[A, B any](list []A, of func(A) B) []B {
	var made []B
	for _, x := range list {
		made = append(made, of(x))
	}
	return made
}

func texts(list []api.ReadToken) []string {
	return each(list, func(t api.ReadToken) string { return t.Text })
}

func size(t api.Term) int {
	n := 1
	for _, k := range t.Kids {
		n += size(k)
	}
	return n
}

// randomSig has constructors, and functions, of all numbers of arguments.
func randomSig() api.TermSig {
	return api.TermSig{
		Cons: []api.TermName{{Name: "False"}, {Name: "True"}, {Name: "A"}, {Name: "B", Args: 1}, {Name: "Pair", Args: 2}, {Name: "Fourfold", Args: 4}},
		Funs: []api.TermName{{Name: "f"}, {Name: "aa", Args: 1}, {Name: "b", Args: 2}, {Name: "z", Args: 3}, {Name: "int", Args: 4}},
	}
}

// call is a function with terms: as many as it has arguments, or fewer.
func call(s api.TermSig, fun int, kids ...api.Term) api.Term {
	if len(kids) < s.Funs[fun].Args {
		return node(api.TermPart, fun, kids...)
	}
	return node(api.TermFun, fun, kids...)
}

// randomTerm returns an expression of a signature, of at most so much depth, with variables from the list.
func randomTerm(r *rand.Rand, s api.TermSig, deep int, vars []int) api.Term {
	sub := func() api.Term { return randomTerm(r, s, deep-1, vars) }
	some := func(n int) []api.Term {
		var l []api.Term
		for range n {
			l = append(l, sub())
		}
		return l
	}
	pick := r.Intn(16)
	switch {
	case deep <= 1 && pick%2 == 0 && len(vars) > 0, pick == 0 && len(vars) > 0:
		return v(vars[r.Intn(len(vars))])
	case deep <= 1, pick == 1:
		return []api.Term{num(r.Intn(2000001) - 1000000), num(r.Intn(3) - 1), con(r.Intn(2)), call(s, r.Intn(len(s.Funs)))}[r.Intn(4)]
	case pick == 2:
		n := r.Intn(len(s.Cons))
		return con(n, some(s.Cons[n].Args)...)
	case pick == 3:
		n := r.Intn(len(s.Funs))
		return call(s, n, some(s.Funs[n].Args)...)
	case pick == 4:
		n := r.Intn(len(s.Funs))
		return call(s, n, some(r.Intn(s.Funs[n].Args+1))...)
	case pick < 7 && len(vars) > 0:
		return let(vars[r.Intn(len(vars))], sub(), sub())
	}
	two := []api.TermOp{api.TermApply, api.TermOr, api.TermWhen, api.TermBoth, api.TermUnify, api.TermSame, api.TermAdd, api.TermSub, api.TermLess}
	return node(two[r.Intn(len(two))], 0, sub(), sub())
}

// randomFormed returns one that is formed.
func randomFormed(r *rand.Rand, s api.TermSig, deep int, vars []int) api.Term {
	for {
		if t := randomTerm(r, s, deep, vars); term.Check(s, t) == api.OK {
			return t
		}
	}
}

// randomType returns a type of at most so much depth, with the data types of lists.
func randomType(r *rand.Rand, deep, vars int) api.KindType {
	sub := func() api.KindType { return randomType(r, deep-1, vars) }
	if deep <= 1 || r.Intn(6) == 0 {
		all := []api.KindType{integers(), ofData(0), typeVar(r.Intn(max(vars, 1))), typeVar(r.Intn(max(vars, 1)))}
		if vars == 0 {
			all = all[:2]
		}
		return all[r.Intn(len(all))]
	}
	if r.Intn(4) == 0 {
		return ofData(1, sub())
	}
	return arrow(sub(), sub())
}

func allVars() []int {
	var l []int
	for n := range api.TermVars {
		l = append(l, n)
	}
	return l
}

func sameTexts(t *testing.T, what any, got, want []string) {
	t.Helper()
	if !slices.Equal(got, want) {
		t.Errorf("%v: got %q, want %q", what, got, want)
	}
}
