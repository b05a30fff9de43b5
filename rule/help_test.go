package rule_test

import (
	"slices"
	"strconv"
	"strings"
	"testing"

	"swingle/api"
	"swingle/read"
)

// datas have the constructors False, True, Z 2, S 3, Nil 4, Cons 5 and Tri 6.
const datas = "data Nat = Z | S(Nat); data List = Nil | Cons(Nat, List); data Tri = Tri(Nat, Nat, Nat);"

// groups are those of the datas.
func groups() [][]int { return [][]int{{0, 1}, {2, 3}, {4, 5}, {6}} }

// progOf reads rules with the constructors of datas.
func progOf(t *testing.T, rules string) api.RuleProg {
	t.Helper()
	m, e := read.Module(datas + rules)
	if e != api.OK {
		t.Fatal(e, rules)
	}
	return m.Prog
}

// valuesOf reads expressions, each of which has variables of its own.
func valuesOf(t *testing.T, p api.RuleProg, sources ...string) []api.Term {
	t.Helper()
	var list []api.Term
	for _, source := range sources {
		x, _, e := read.Goal(p, source)
		if e != api.OK {
			t.Fatal(e, source)
		}
		list = append(list, x)
	}
	return list
}

func node(op api.TermOp, n int, kids ...api.Term) api.Term {
	return api.Term{Op: op, N: n, Kids: kids}
}

func v(n int) api.Term { return node(api.TermVar, n) }

func num(n int) api.Term { return node(api.TermInt, n) }

func con(n int, kids ...api.Term) api.Term { return node(api.TermCon, n, kids...) }

func let(n int, a, b api.Term) api.Term { return node(api.TermLet, n, a, b) }

func or(a, b api.Term) api.Term { return node(api.TermOr, 0, a, b) }

func terms(list ...api.Term) []api.Term { return list }

// many is so many equal terms, which share nothing.
func many(n int, one func() api.Term) []api.Term {
	var list []api.Term
	for range n {
		list = append(list, one())
	}
	return list
}

// tower is so many constructors with one argument around a term.
func tower(n, con int, inside api.Term) api.Term {
	for range n {
		inside = node(api.TermCon, con, inside)
	}
	return inside
}

// numbered returns patterns whose variables are numbered from 0 on as they come, and how many there are.
func numbered(pats []api.Term) ([]api.Term, int) {
	next := 0
	var number func(list []api.Term) []api.Term
	number = func(list []api.Term) []api.Term {
		var made []api.Term
		for _, x := range list {
			x.Kids = number(x.Kids)
			if x.Op == api.TermVar {
				x.N = next
				next++
			}
			made = append(made, x)
		}
		return made
	}
	return number(pats), next
}

// ruleOf is a rule whose variables are numbered as they come, and which is 1.
func ruleOf(fun int, pats ...api.Term) api.RuleRule {
	pats, vars := numbered(pats)
	return api.RuleRule{Fun: fun, Pats: pats, Rhs: num(1), Vars: vars}
}

func showNumbers(list []int) string {
	var texts []string
	for _, n := range list {
		texts = append(texts, strconv.Itoa(n))
	}
	return strings.Join(texts, " ")
}

func showTerm(s api.TermSig, t api.Term) string {
	n := strconv.Itoa(t.N)
	switch {
	case t.Op == api.TermVar:
		return "v" + n + showTerms(s, t.Kids)
	case t.Op == api.TermInt:
		return n + showTerms(s, t.Kids)
	case t.Op == api.TermCon && 0 <= t.N && t.N < len(s.Cons):
		return s.Cons[t.N].Name + showTerms(s, t.Kids)
	}
	return strconv.Itoa(int(t.Op)) + ":" + n + showTerms(s, t.Kids)
}

// showTerms shows what is between brackets; without terms there are none.
func showTerms(s api.TermSig, list []api.Term) string {
	if len(list) == 0 {
		return ""
	}
	return "(" + showArgs(s, list) + ")"
}

func showArgs(s api.TermSig, list []api.Term) string {
	var texts []string
	for _, t := range list {
		texts = append(texts, showTerm(s, t))
	}
	return strings.Join(texts, ", ")
}

func showBinds(s api.TermSig, list []api.TermBind) string {
	var texts []string
	for _, b := range list {
		texts = append(texts, "v"+strconv.Itoa(b.Var)+" = "+showTerm(s, b.Term))
	}
	return strings.Join(texts, ", ")
}

// showTree shows all that a tree has; a part that its Op does not have is shown too.
func showTree(s api.TermSig, n api.RuleNode) string {
	if n.Op == api.RuleBranch && len(n.Cons) == len(n.Kids) && len(n.Rules) == 0 {
		var texts []string
		for i, c := range n.Cons {
			texts = append(texts, s.Cons[c].Name+": "+showTree(s, n.Kids[i]))
		}
		return showNumbers(n.Path) + " {" + strings.Join(texts, "; ") + "}"
	}
	text := []string{"none", "fail", "leaf", "branch", "or"}[n.Op]
	if len(n.Rules) > 0 {
		text += " " + showNumbers(n.Rules)
	}
	if len(n.Path)+len(n.Cons) > 0 {
		text += " path " + showNumbers(n.Path) + " cons " + showNumbers(n.Cons)
	}
	if len(n.Kids) > 0 {
		var texts []string
		for _, kid := range n.Kids {
			texts = append(texts, showTree(s, kid))
		}
		text += " [" + strings.Join(texts, "; ") + "]"
	}
	return text
}

// countNodes counts the nodes of a tree.
func countNodes(n api.RuleNode) int {
	count := 1
	for _, kid := range n.Kids {
		count += countNodes(kid)
	}
	return count
}

// without returns a program without the rule n.
func without(p api.RuleProg, n int) api.RuleProg {
	p.Rules = slices.Delete(slices.Clone(p.Rules), n, n+1)
	return p
}
