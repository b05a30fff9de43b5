package flat_test

import (
	"slices"

	"swingle/api"
)

// This file follows the definitions word by word, to have something to compare
// with: a shape is arguments whose variables have their numbers.

func copyTerm(t api.Term) api.Term {
	made := node(t.Op, t.N)
	for _, kid := range t.Kids {
		made.Kids = append(made.Kids, copyTerm(kid))
	}
	return made
}

// parameters is the shape whose arguments are variables.
func parameters(n int) []api.Term {
	var list []api.Term
	for i := range n {
		list = append(list, v(i))
	}
	return list
}

// replaced returns a shape with a constructor in place of a variable, whose
// arguments are variables from a number on.
func replaced(shape []api.Term, x, c, args, from int) []api.Term {
	var made []api.Term
	for _, t := range shape {
		switch {
		case t.Op == api.TermVar && t.N == x:
			t = con(c)
			for i := range args {
				t.Kids = append(t.Kids, v(from+i))
			}
		default:
			t.Kids = replaced(t.Kids, x, c, args, from)
		}
		made = append(made, t)
	}
	return made
}

// variablesOf are the variables of a shape.
func variablesOf(shape []api.Term) []int {
	var list []int
	for _, t := range shape {
		if t.Op == api.TermVar {
			list = append(list, t.N)
		}
		list = append(list, variablesOf(t.Kids)...)
	}
	return list
}

// blank returns terms in which all variables are 0.
func blank(list []api.Term) []api.Term {
	var made []api.Term
	for _, t := range list {
		t.Kids = blank(t.Kids)
		if t.Op == api.TermVar {
			t.N = 0
		}
		made = append(made, t)
	}
	return made
}

// varsOf are what Vars of a FlatRule have: the variables of both come in the same order.
func varsOf(r api.RuleRule, shape []api.Term) []int {
	list := slices.Repeat([]int{-1}, r.Vars)
	there := variablesOf(shape)
	for i, x := range variablesOf(r.Pats) {
		list[x] = there[i]
	}
	return list
}

// definition is a function of a program.
type definition struct {
	api.RuleProg
	fun int
}

func (d definition) args() int { return d.Sig.Funs[d.fun].Args }

// isFormed returns whether a tree is formed, but for how many nodes it has.
func (d definition) isFormed(n api.FlatTree, shape []api.Term, given int) bool {
	named := api.FlatTree{Op: n.Op}
	ok := false
	switch n.Op {
	case api.FlatCase:
		named.Var, named.Alts = n.Var, n.Alts
		ok = slices.Contains(variablesOf(shape), n.Var) && len(n.Alts) > 0
		for i, a := range n.Alts {
			if a.Con < 0 || a.Con >= len(d.Sig.Cons) || i > 0 && n.Alts[i-1].Con >= a.Con {
				return false
			}
			args := d.Sig.Cons[a.Con].Args
			next := parameters(given + args)[given:]
			ok = ok && showTerms(next) == showTerms(variableTerms(a.Vars)) && given+args-1 < api.FlatVars
			ok = ok && d.isFormed(a.Then, replaced(shape, n.Var, a.Con, args, given), given+args)
		}
	case api.FlatOr:
		named.Kids = n.Kids
		ok = len(n.Kids) >= 2 && len(n.Kids) <= api.FlatKids
		for _, kid := range n.Kids {
			ok = ok && d.isFormed(kid, shape, given)
		}
	case api.FlatRule:
		named.Rule, named.Vars = n.Rule, n.Vars
		if n.Rule < 0 || n.Rule >= len(d.Rules) || d.Rules[n.Rule].Fun != d.fun {
			return false
		}
		r := d.Rules[n.Rule]
		ok = showTerms(blank(r.Pats)) == showTerms(blank(shape)) && slices.Equal(n.Vars, varsOf(r, shape))
	case api.FlatFail:
		ok = true
	}
	return ok && showTree(n) == showTree(named)
}

func variableTerms(vars []int) []api.Term {
	var list []api.Term
	for _, n := range vars {
		list = append(list, v(n))
	}
	return list
}

// rulesOf are the rules of the FlatRules of a tree.
func rulesOf(n api.FlatTree) []int {
	var list []int
	if n.Op == api.FlatRule {
		list = append(list, n.Rule)
	}
	for _, a := range n.Alts {
		list = append(list, rulesOf(a.Then)...)
	}
	for _, kid := range n.Kids {
		list = append(list, rulesOf(kid)...)
	}
	return list
}

// isRight returns whether a tree is right.
func (d definition) isRight(n api.FlatTree) bool {
	if countNodes(n) > api.FlatNodes || !d.isFormed(n, parameters(d.args()), d.args()) {
		return false
	}
	var all []int
	for i, r := range d.Rules {
		if r.Fun == d.fun {
			all = append(all, i)
		}
	}
	return slices.Equal(slices.Sorted(slices.Values(rulesOf(n))), all)
}

// flat returns the flat tree of a definitional one, however large it is.
func (d definition) flat(n api.RuleNode, shape []api.Term, given int) api.FlatTree {
	switch n.Op {
	case api.RuleLeaf:
		made := or()
		for _, r := range n.Rules {
			made.Kids = append(made.Kids, is(r, varsOf(d.Rules[r], shape)...))
		}
		if len(made.Kids) == 1 {
			return made.Kids[0]
		}
		return made
	case api.RuleBranch:
		list := shape
		var at api.Term
		for _, i := range n.Path {
			at = list[i]
			list = at.Kids
		}
		made := asks(at.N)
		for i, c := range n.Cons {
			args := d.Sig.Cons[c].Args
			then := d.flat(n.Kids[i], replaced(shape, at.N, c, args, given), given+args)
			made.Alts = append(made.Alts, alt(c, parameters2(given, args), then))
		}
		return made
	case api.RuleOr:
		return or(d.flat(n.Kids[0], shape, given), d.flat(n.Kids[1], shape, given))
	}
	return fail()
}

// parameters2 are so many numbers from one on.
func parameters2(from, many int) []int {
	var list []int
	for i := range many {
		list = append(list, from+i)
	}
	return list
}

// largest is the greatest number of a variable in a tree's Alts.
func largest(n api.FlatTree) int {
	most := -1
	for _, a := range n.Alts {
		for _, x := range append(slices.Clone(a.Vars), largest(a.Then)) {
			most = max(most, x)
		}
	}
	for _, kid := range n.Kids {
		most = max(most, largest(kid))
	}
	return most
}

// follow returns the rules to which a tree comes, and all variables that it asks, as they come.
func follow(n api.FlatTree, values map[int]api.Term) (rules, asked []int) {
	switch n.Op {
	case api.FlatRule:
		rules = append(rules, n.Rule)
	case api.FlatOr:
		for _, kid := range n.Kids {
			l, m := follow(kid, values)
			rules, asked = append(rules, l...), append(asked, m...)
		}
	case api.FlatCase:
		asked = append(asked, n.Var)
		for _, a := range n.Alts {
			value := values[n.Var]
			if value.Op != api.TermCon || value.N != a.Con {
				continue
			}
			more := map[int]api.Term{}
			for x, t := range values {
				more[x] = t
			}
			for i, x := range a.Vars {
				more[x] = value.Kids[i]
			}
			l, m := follow(a.Then, more)
			rules, asked = append(rules, l...), append(asked, m...)
		}
	}
	return rules, asked
}

// ways are the variables of the FlatCases on each way from a tree's root to a FlatRule.
func ways(n api.FlatTree) [][]int {
	switch n.Op {
	case api.FlatRule:
		return [][]int{nil}
	case api.FlatOr:
		var list [][]int
		for _, kid := range n.Kids {
			list = append(list, ways(kid)...)
		}
		return list
	case api.FlatCase:
		var list [][]int
		for _, a := range n.Alts {
			for _, way := range ways(a.Then) {
				list = append(list, append([]int{n.Var}, way...))
			}
		}
		return list
	}
	return nil
}

func needs(n api.FlatTree, params int) []int {
	var list []int
	for p := range params {
		if !slices.ContainsFunc(ways(n), func(way []int) bool { return !slices.Contains(way, p) }) {
			list = append(list, p)
		}
	}
	return list
}

// joinOnce changes an or somewhere as the definition says, if there is one to be changed.
func joinOnce(n *api.FlatTree) bool {
	for _, spot := range spots(n) {
		if spot.Op != api.FlatOr {
			continue
		}
		switch len(spot.Kids) {
		case 0:
			*spot = fail()
			return true
		case 1:
			*spot = spot.Kids[0]
			return true
		}
		for i, kid := range spot.Kids {
			if kid.Op == api.FlatOr {
				spot.Kids = slices.Concat(spot.Kids[:i], kid.Kids, spot.Kids[i+1:])
				return true
			}
			if kid.Op == api.FlatFail {
				spot.Kids = slices.Concat(spot.Kids[:i], spot.Kids[i+1:])
				return true
			}
		}
	}
	return false
}

// join returns a tree whose ors are joined, and how many Kids one has at most.
func join(n api.FlatTree) (api.FlatTree, int) {
	made := again(n)
	for joinOnce(&made) {
	}
	most := 0
	for _, spot := range spots(&made) {
		most = max(most, len(spot.Kids))
	}
	return made, most
}
