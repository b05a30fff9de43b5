package rule_test

import (
	"slices"
	"strconv"
	"strings"
	"testing"

	"swingle/api"
	"swingle/build"
	"swingle/read"
	"swingle/sample"
)

// groups are those of sample.Datas.
func groups() [][]int { return [][]int{{0, 1}, {2, 3}, {4, 5}, {6}} }

// progOf reads rules with the constructors of sample.Datas.
func progOf(t *testing.T, rules string) api.RuleProg {
	t.Helper()
	m, e := read.Module(sample.Datas + rules)
	if e != api.OK {
		t.Fatal(e, rules)
	}
	return m.Prog
}

// valuesOf reads expressions, each of which has variables of its own.
func valuesOf(t *testing.T, p api.RuleProg, sources ...string) []api.Term {
	t.Helper()
	var list []api.Term
	for _, source := range sources {
		x, _, e := read.Goal(p, source)
		if e != api.OK {
			t.Fatal(e, source)
		}
		list = append(list, x)
	}
	return list
}

// Short names.
var (
	node  = build.Node
	v     = build.Var
	num   = build.Num
	con   = build.Con
	let   = build.Let
	or    = build.Or
	terms = build.Terms
	tower = build.Tower
)

// many is so many equal terms, which share nothing.
func many(n int, one func() api.Term) []api.Term {
	var list []api.Term
	for range n {
		list = append(list, one())
	}
	return list
}

func showNumbers(list []int) string {
	var texts []string
	for _, n := range list {
		texts = append(texts, strconv.Itoa(n))
	}
	return strings.Join(texts, " ")
}

func showTerm(s api.TermSig, t api.Term) string {
	n := strconv.Itoa(t.N)
	switch {
	case t.Op == api.TermVar:
		return "v" + n + showTerms(s, t.Kids)
	case t.Op == api.TermInt:
		return n + showTerms(s, t.Kids)
	case t.Op == api.TermCon && 0 <= t.N && t.N < len(s.Cons):
		return s.Cons[t.N].Name + showTerms(s, t.Kids)
	}
	return strconv.Itoa(int(t.Op)) + ":" + n + showTerms(s, t.Kids)
}

// showTerms shows what is between brackets; without terms there are none.
func showTerms(s api.TermSig, list []api.Term) string {
	if len(list) == 0 {
		return ""
	}
	return "(" + showArgs(s, list) + ")"
}

func showArgs(s api.TermSig, list []api.Term) string {
	var texts []string
	for _, t := range list {
		texts = append(texts, showTerm(s, t))
	}
	return strings.Join(texts, ", ")
}

func showBinds(s api.TermSig, list []api.TermBind) string {
	var texts []string
	for _, b := range list {
		texts = append(texts, "v"+strconv.Itoa(b.Var)+" = "+showTerm(s, b.Term))
	}
	return strings.Join(texts, ", ")
}

// showTree shows all that a tree has; a part that its Op does not have is shown too.
func showTree(s api.TermSig, n api.RuleNode) string {
	if n.Op == api.RuleBranch && len(n.Cons) == len(n.Kids) && len(n.Rules) == 0 {
		var texts []string
		for i, c := range n.Cons {
			texts = append(texts, s.Cons[c].Name+": "+showTree(s, n.Kids[i]))
		}
		return showNumbers(n.Path) + " {" + strings.Join(texts, "; ") + "}"
	}
	text := []string{"none", "fail", "leaf", "branch", "or"}[n.Op]
	if len(n.Rules) > 0 {
		text += " " + showNumbers(n.Rules)
	}
	if len(n.Path)+len(n.Cons) > 0 {
		text += " path " + showNumbers(n.Path) + " cons " + showNumbers(n.Cons)
	}
	if len(n.Kids) > 0 {
		var texts []string
		for _, kid := range n.Kids {
			texts = append(texts, showTree(s, kid))
		}
		text += " [" + strings.Join(texts, "; ") + "]"
	}
	return text
}

// countNodes counts the nodes of a tree.
func countNodes(n api.RuleNode) int {
	count := 1
	for _, kid := range n.Kids {
		count += countNodes(kid)
	}
	return count
}

// without returns a program without the rule n.
func without(p api.RuleProg, n int) api.RuleProg {
	p.Rules = slices.Delete(slices.Clone(p.Rules), n, n+1)
	return p
}
