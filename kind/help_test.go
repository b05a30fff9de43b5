package kind_test

import (
	"strconv"
	"strings"
	"testing"

	"swingle/api"
	"swingle/build"
	"swingle/read"
)

// lists is the source of the chapter's examples.
const lists = `data List a = Nil | Cons(a, List(a));
app(Nil, y) = y;
app(Cons(h, t), y) = Cons(h, app(t, y));
last(l) = when app(z, Cons(x, Nil)) =:= l then x;
coin = 0 ? 1;
twice(f, x) = f @ (f @ x);
`

// more are the data types of most tests: with parameters, with functions in them, and with a parameter that no constructor has.
const more = `data List a = Nil | Cons(a, List(a));
data Pair a b = Pair(a, b);
data Nat = Z | S(Nat);
data Fn a b = Fn(a -> b);
data Ph a = Ph;
`

func mustModule(t *testing.T, source string) api.ReadModule {
	t.Helper()
	m, e := read.Module(source)
	if e != api.OK {
		t.Fatal(e, source)
	}
	return m
}

// mustGoal reads an expression: a let's variable has a number of its own.
func mustGoal(t *testing.T, m api.ReadModule, source string) api.Term {
	t.Helper()
	g, _, e := read.Goal(m.Prog, source)
	if e != api.OK {
		t.Fatal(e, source)
	}
	return g
}

// Short names.
var (
	node     = build.Node
	v        = build.Var
	num      = build.Num
	con      = build.Con
	let      = build.Let
	or       = build.Or
	typeVar  = build.TypeVar
	integers = build.Integers
	arrow    = build.Arrow
	ofData   = build.OfData
)

// typeReader reads types as the chapter writes them.
type typeReader struct {
	datas []api.KindData
	text  string
}

// typeOf reads a type: ?0 -> (List(?1) -> int).
func typeOf(datas []api.KindData, text string) api.KindType {
	r := &typeReader{datas, strings.ReplaceAll(text, " ", "")}
	made := r.whole()
	if r.text != "" {
		panic("no type: " + text)
	}
	return made
}

func (r *typeReader) takes(text string) bool {
	rest, ok := strings.CutPrefix(r.text, text)
	r.text = rest
	return ok
}

func (r *typeReader) word() string {
	end := 0
	for end < len(r.text) && !strings.ContainsRune("(),->?", rune(r.text[end])) {
		end++
	}
	word := r.text[:end]
	r.text = r.text[end:]
	return word
}

func (r *typeReader) whole() api.KindType {
	from := r.part()
	if r.takes("->") {
		return arrow(from, r.whole())
	}
	return from
}

func (r *typeReader) part() api.KindType {
	switch {
	case r.takes("("):
		inside := r.whole()
		if !r.takes(")") {
			panic("no bracket: " + r.text)
		}
		return inside
	case r.takes("?"):
		n, _ := strconv.Atoi(r.word())
		return typeVar(n)
	}
	name := r.word()
	if name == "int" {
		return integers()
	}
	made := ofData(-1)
	for n, d := range r.datas {
		if d.Name == name {
			made.N = n
		}
	}
	if made.N < 0 {
		panic("no data type: " + name)
	}
	if r.takes("(") {
		made.Parts = []api.KindType{r.whole()}
		for r.takes(",") {
			next := r.whole()
			made.Parts = append(made.Parts, next)
		}
		if !r.takes(")") {
			panic("no bracket: " + r.text)
		}
	}
	return made
}

// typesOf reads types that have semicolons between them.
func typesOf(datas []api.KindData, text string) []api.KindType {
	if text == "" {
		return nil
	}
	return each(strings.Split(text, ";"), func(s string) api.KindType { return typeOf(datas, s) })
}

// show writes a type as the chapter does, such that different types are different texts.
func show(datas []api.KindData, t api.KindType) string {
	parts := each(t.Parts, func(p api.KindType) string { return show(datas, p) })
	switch {
	case t.Sort == api.KindVar && len(parts) == 0:
		return "?" + strconv.Itoa(t.N)
	case t.Sort == api.KindInt && t.N == 0 && len(parts) == 0:
		return "int"
	case t.Sort == api.KindFun && t.N == 0 && len(parts) == 2:
		for i, p := range t.Parts {
			if p.Sort == api.KindFun {
				parts[i] = "(" + parts[i] + ")"
			}
		}
		return parts[0] + " -> " + parts[1]
	case t.Sort == api.KindOfData && 0 <= t.N && t.N < len(datas) && len(parts) == 0:
		return datas[t.N].Name
	case t.Sort == api.KindOfData && 0 <= t.N && t.N < len(datas):
		return datas[t.N].Name + "(" + strings.Join(parts, ", ") + ")"
	}
	return "sort" + strconv.Itoa(int(t.Sort)) + "." + strconv.Itoa(t.N) + "(" + strings.Join(parts, ", ") + ")"
}

func showTypes(datas []api.KindData, list []api.KindType) string {
	return strings.Join(each(list, func(t api.KindType) string { return show(datas, t) }), "; ")
}

// showBinds writes a binding list as 0 int, 1 List(?2).
func showBinds(datas []api.KindData, list []api.KindBind) string {
	return strings.Join(each(list, func(b api.KindBind) string { return strconv.Itoa(b.Var) + " " + show(datas, b.Type) }), ", ")
}

// showUses writes uses as 0: app with int, ?1; 2: coin with.
func showUses(m api.ReadModule, list []api.KindUse) string {
	return strings.Join(each(list, func(u api.KindUse) string {
		types := each(u.Types, func(t api.KindType) string { return " " + show(m.Datas, t) })
		return strconv.Itoa(u.Node) + ": " + m.Prog.Sig.Funs[u.Fun].Name + " with" + strings.Join(types, ",")
	}), "; ")
}

func showGroups(list [][]int) string {
	return strings.Join(each(list, func(group []int) string { return strings.Join(each(group, strconv.Itoa), " ") }), "; ")
}

// showTerm writes an expression such that different ones are different texts.
func showTerm(t api.Term) string {
	return strconv.Itoa(int(t.Op)) + "." + strconv.Itoa(t.N) + "(" + strings.Join(each(t.Kids, showTerm), " ") + ")"
}

func showRule(r api.RuleRule) string {
	return strconv.Itoa(r.Fun) + " " + strings.Join(each(r.Pats, showTerm), " ") + " = " + showTerm(r.Rhs) + " " + strconv.Itoa(r.Vars)
}

// showModule writes a module; what can be printed is a source.
func showModule(m api.ReadModule) string {
	if text, e := read.PrintModule(m); e == api.OK {
		return text
	}
	text := ""
	for _, d := range m.Datas {
		text += d.Name + "/" + strconv.Itoa(d.Params)
		for _, args := range d.Cons {
			text += " | " + showTypes(m.Datas, args)
		}
		text += "\n"
	}
	for _, n := range append(append([]api.TermName{}, m.Prog.Sig.Cons...), m.Prog.Sig.Funs...) {
		text += n.Name + "/" + strconv.Itoa(n.Args) + " "
	}
	return text + "\n" + strings.Join(each(m.Prog.Rules, showRule), "\n")
}

func each[A, B any](list []A, of func(A) B) []B {
	var made []B
	for _, x := range list {
		made = append(made, of(x))
	}
	return made
}

func countNodes(t api.KindType) int {
	n := 1
	for _, p := range t.Parts {
		n += countNodes(p)
	}
	return n
}

// chain is the type of so many arguments, each its own type variable from the first one on, and of a result, the next one.
func chain(first, args int) api.KindType {
	if args == 0 {
		return typeVar(first)
	}
	return arrow(typeVar(first), chain(first+1, args-1))
}
