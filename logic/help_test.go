package logic_test

import (
	"slices"
	"strconv"
	"strings"
	"testing"

	"swingle/api"
	"swingle/build"
	"swingle/logic"
	"swingle/read"
	"swingle/sample"
)

// source has the program of the chapter's examples, whose rules are 0 to 8, and
// more: half 9, twice 10, map 11 and 12, pick 13. Its functions are add
// 0, or 1, coin 2, len 3, half 4, twice 5, map 6 and pick 7; its constructors are
// False, True, Z 2, S 3, Nil 4 and Cons 5.
const source = `
data Nat = Z | S(Nat);
data List = Nil | Cons(Nat, List);
` + sample.Rules + `
half(x) = when add(y, y) =:= x then y;
twice(f, x) = let y = f @ x in f @ y;
map(f, Nil) = Nil;
map(f, Cons(x, l)) = Cons(f @ x, map(f, l));
pick(x, y) = when x < y & 0 == 0 then x ? y;
`

func prog(t *testing.T) api.RuleProg {
	t.Helper()
	return progOf(t, source)
}

func progOf(t *testing.T, source string) api.RuleProg {
	t.Helper()
	m, e := read.Module(source)
	if e != api.OK {
		t.Fatal(e, source)
	}
	return m.Prog
}

// goal reads an expression, whose variables are numbered as they come.
func goal(t *testing.T, p api.RuleProg, source string) api.Term {
	t.Helper()
	x, _, e := read.Goal(p, source)
	if e != api.OK {
		t.Fatal(e, source)
	}
	return x
}

// Short names.
var (
	node  = build.Node
	v     = build.Var
	num   = build.Num
	con   = build.Con
	fun   = build.Fun
	part  = build.Part
	terms = build.Terms
)

func bottom() api.Term { return node(api.TermBot, 0) }

func truth(is bool) api.Term { return con(map[bool]int{false: 0, true: 1}[is]) }

func zero() api.Term { return con(2) }

func succ(x api.Term) api.Term { return con(3, x) }

// nat is a number as constructors.
func nat(n int) api.Term { return tower(n, zero()) }

// tower is so many S around a term.
func tower(n int, inside api.Term) api.Term {
	for range n {
		inside = succ(inside)
	}
	return inside
}

// step is a node of a proof.
func step(r api.LogicRule, value api.Term, kids ...api.LogicProof) api.LogicProof {
	return api.LogicProof{Rule: r, Value: value, Kids: kids}
}

func none() api.LogicProof { return step(api.LogicBot, bottom()) }

// is proves what a variable has.
func is(value api.Term) api.LogicProof { return step(api.LogicVar, value) }

func isNum(n int) api.LogicProof { return step(api.LogicInt, num(n)) }

func valuesOf(kids []api.LogicProof) []api.Term {
	var list []api.Term
	for _, f := range kids {
		list = append(list, f.Value)
	}
	return list
}

func isCon(n int, kids ...api.LogicProof) api.LogicProof {
	return step(api.LogicCon, con(n, valuesOf(kids)...), kids...)
}

func isPart(n int, kids ...api.LogicProof) api.LogicProof {
	return step(api.LogicPart, part(n, valuesOf(kids)...), kids...)
}

// isNat proves a number of itself.
func isNat(n int) api.LogicProof {
	if n == 0 {
		return isCon(2)
	}
	return isCon(3, isNat(n-1))
}

// through is a node with the Value of its last Kid.
func through(r api.LogicRule, kids ...api.LogicProof) api.LogicProof {
	return step(r, kids[len(kids)-1].Value, kids...)
}

// by is a call by a rule: the last Kid is that of its right side.
func by(rule int, binds []api.Term, kids ...api.LogicProof) api.LogicProof {
	f := through(api.LogicFun, kids...)
	f.Num, f.Binds = rule, binds
	return f
}

func showTerm(t api.Term) string {
	return t2s[t.Op] + strconv.Itoa(t.N) + showTerms(t.Kids)
}

// t2s has a letter for each Op that can stand in a partial value, and some others.
var t2s = map[api.TermOp]string{0: "none", api.TermBot: "bot", api.TermVar: "v", api.TermInt: "i", api.TermCon: "c", api.TermPart: "p", api.TermFun: "f", api.TermOr: "or", api.TermLet: "let"}

// showTerms shows what is between brackets; without terms there are none.
func showTerms(list []api.Term) string {
	var texts []string
	for _, t := range list {
		texts = append(texts, showTerm(t))
	}
	if len(texts) == 0 {
		return ""
	}
	return "(" + strings.Join(texts, ", ") + ")"
}

func showProof(f api.LogicProof) string {
	text := "rule " + strconv.Itoa(int(f.Rule)) + " " + showTerm(f.Value)
	if f.Num != 0 || len(f.Binds) > 0 {
		text += " num " + strconv.Itoa(f.Num) + showTerms(f.Binds)
	}
	var texts []string
	for _, k := range f.Kids {
		texts = append(texts, showProof(k))
	}
	return text + " {" + strings.Join(texts, "; ") + "}"
}

func showNumbers(list []int) string {
	var texts []string
	for _, n := range list {
		texts = append(texts, strconv.Itoa(n))
	}
	return strings.Join(texts, " ")
}

// freshTerms returns equal terms, which share nothing.
func freshTerms(list []api.Term) []api.Term {
	var made []api.Term
	for _, x := range list {
		made = append(made, node(x.Op, x.N, freshTerms(x.Kids)...))
	}
	return slices.Clip(made)
}

func freshTerm(t api.Term) api.Term { return freshTerms(terms(t))[0] }

// fresh returns an equal proof, which shares nothing.
func fresh(f api.LogicProof) api.LogicProof {
	made := api.LogicProof{Rule: f.Rule, Value: freshTerm(f.Value), Num: f.Num, Binds: freshTerms(f.Binds)}
	for _, k := range f.Kids {
		made.Kids = append(made.Kids, fresh(k))
	}
	made.Kids = slices.Clip(made.Kids)
	return made
}

// steps returns all nodes of a proof, each before its Kids, so that they can be changed.
func steps(f *api.LogicProof) []*api.LogicProof {
	list := []*api.LogicProof{f}
	for i := range f.Kids {
		list = append(list, steps(&f.Kids[i])...)
	}
	return list
}

func count(t api.Term) int {
	nodes := 1
	for _, k := range t.Kids {
		nodes += count(k)
	}
	return nodes
}

func depth(t api.Term) int {
	most := 0
	for _, k := range t.Kids {
		most = max(most, depth(k))
	}
	return most + 1
}

func depthOf(f api.LogicProof) int {
	most := 0
	for _, k := range f.Kids {
		most = max(most, depthOf(k))
	}
	return most + 1
}

// checkAccept fails if a proof is not accepted, or, if something else is wanted, if it is.
func checkAccept(t *testing.T, p api.RuleProg, env []api.Term, e api.Term, f api.LogicProof, want api.Errno) {
	t.Helper()
	value := api.Term{}
	if want == api.OK {
		value = f.Value
	}
	got, why := logic.Accept(p, env, e, f)
	if why != want || showTerm(got) != showTerm(value) {
		t.Error(showTerm(e), showProof(f), "in", showTerms(env), "is", why, showTerm(got), "want", want)
	}
}
