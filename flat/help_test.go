package flat_test

import (
	"slices"
	"strconv"
	"strings"
	"testing"

	"swingle/api"
	"swingle/build"
	"swingle/flat"
	"swingle/read"
	"swingle/sample"
)

// progOf reads rules with the constructors of sample.Datas.
func progOf(t *testing.T, rules string) api.RuleProg {
	t.Helper()
	m, e := read.Module(sample.Datas + rules)
	if e != api.OK {
		t.Fatal(e, rules)
	}
	return m.Prog
}

// flatOf reads rules, and makes them flat.
func flatOf(t *testing.T, rules string) api.FlatProg {
	t.Helper()
	f, e := flat.Flat(progOf(t, rules))
	if e != api.OK {
		t.Fatal(e, rules)
	}
	return f
}

// with returns the flat program of rules, with other trees for the first functions.
func with(t *testing.T, rules string, trees ...api.FlatTree) api.FlatProg {
	t.Helper()
	f := flatOf(t, rules)
	copy(f.Trees, trees)
	return f
}

// Short names.
var (
	node  = build.Node
	v     = build.Var
	num   = build.Num
	con   = build.Con
	terms = build.Terms
	tower = build.Tower
)

func ints(list ...int) []int { return list }

// asks is a FlatCase.
func asks(v int, alts ...api.FlatAlt) api.FlatTree {
	return api.FlatTree{Op: api.FlatCase, Var: v, Alts: alts}
}

func alt(con int, vars []int, then api.FlatTree) api.FlatAlt {
	return api.FlatAlt{Con: con, Vars: vars, Then: then}
}

func or(kids ...api.FlatTree) api.FlatTree {
	return api.FlatTree{Op: api.FlatOr, Kids: kids}
}

// is is a FlatRule.
func is(rule int, vars ...int) api.FlatTree {
	return api.FlatTree{Op: api.FlatRule, Rule: rule, Vars: vars}
}

func fail() api.FlatTree { return api.FlatTree{Op: api.FlatFail} }

func showNumbers(list []int) string {
	var texts []string
	for _, n := range list {
		texts = append(texts, strconv.Itoa(n))
	}
	return strings.Join(texts, " ")
}

// showTree shows all that a tree has; a part that its Op does not have is shown too.
func showTree(n api.FlatTree) string {
	text := strconv.Itoa(int(n.Op))
	switch n.Op {
	case api.FlatCase:
		text = "case " + strconv.Itoa(n.Var)
		n.Var = 0
	case api.FlatOr:
		text = "or"
	case api.FlatRule:
		text = "rule " + strconv.Itoa(n.Rule)
		n.Rule = 0
	case api.FlatFail:
		text = "fail"
	}
	if n.Var != 0 || n.Rule != 0 {
		text += " var " + strconv.Itoa(n.Var) + " rule " + strconv.Itoa(n.Rule)
	}
	if len(n.Vars) > 0 {
		text += " [" + showNumbers(n.Vars) + "]"
	}
	var texts []string
	for _, a := range n.Alts {
		vars := ""
		if len(a.Vars) > 0 {
			vars = " [" + showNumbers(a.Vars) + "]"
		}
		texts = append(texts, strconv.Itoa(a.Con)+vars+": "+showTree(a.Then))
	}
	for _, kid := range n.Kids {
		texts = append(texts, showTree(kid))
	}
	if len(texts) > 0 {
		text += " {" + strings.Join(texts, "; ") + "}"
	}
	return text
}

func showTerm(t api.Term) string {
	text := strconv.Itoa(int(t.Op)) + ":" + strconv.Itoa(t.N)
	if len(t.Kids) > 0 {
		text += "(" + showTerms(t.Kids) + ")"
	}
	return text
}

func showTerms(list []api.Term) string {
	var texts []string
	for _, t := range list {
		texts = append(texts, showTerm(t))
	}
	return strings.Join(texts, ", ")
}

func showNames(list []api.TermName) string {
	text := ""
	for _, n := range list {
		text += n.Name + strconv.Itoa(n.Args) + " "
	}
	return text
}

func showProg(p api.RuleProg) string {
	text := showNames(p.Sig.Cons) + "| " + showNames(p.Sig.Funs) + "\n"
	for _, r := range p.Rules {
		text += strconv.Itoa(r.Fun) + " (" + showTerms(r.Pats) + ") = " + showTerm(r.Rhs) + " vars " + strconv.Itoa(r.Vars) + "\n"
	}
	return text
}

// showFlat shows all of a flat program; nothing for none.
func showFlat(f api.FlatProg) string {
	text := ""
	for _, tree := range f.Trees {
		text += showTree(tree) + "\n"
	}
	if len(f.Prog.Sig.Cons)+len(f.Prog.Sig.Funs)+len(f.Prog.Rules) > 0 {
		text += showProg(f.Prog)
	}
	return text
}

// countNodes counts the nodes of a tree.
func countNodes(n api.FlatTree) int {
	count := 1
	for _, kid := range n.Kids {
		count += countNodes(kid)
	}
	for _, a := range n.Alts {
		count += countNodes(a.Then)
	}
	return count
}

// spots returns all nodes of a tree, so that they can be changed.
func spots(n *api.FlatTree) []*api.FlatTree {
	list := []*api.FlatTree{n}
	for i := range n.Kids {
		list = append(list, spots(&n.Kids[i])...)
	}
	for i := range n.Alts {
		list = append(list, spots(&n.Alts[i].Then)...)
	}
	return list
}

// again returns a tree that shares no memory with one.
func again(n api.FlatTree) api.FlatTree {
	made := api.FlatTree{Op: n.Op, Var: n.Var, Rule: n.Rule, Vars: slices.Clone(n.Vars)}
	for _, kid := range n.Kids {
		made.Kids = append(made.Kids, again(kid))
	}
	for _, a := range n.Alts {
		made.Alts = append(made.Alts, alt(a.Con, slices.Clone(a.Vars), again(a.Then)))
	}
	return made
}
