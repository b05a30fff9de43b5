// Package fresh copies expressions and programs, so that results share no
// memory with arguments, or with each other. Several layers do; it calls
// nothing but api and lists.
package fresh

import (
	"slices"

	"swingle/api"
	"swingle/lists"
)

// Term returns an expression again.
func Term(t api.Term) api.Term {
	return api.Term{Op: t.Op, N: t.N, Kids: lists.Map(t.Kids, Term)}
}

// Program returns a program again.
func Program(p api.RuleProg) api.RuleProg {
	sig := api.TermSig{Cons: slices.Clone(p.Sig.Cons), Funs: slices.Clone(p.Sig.Funs)}
	return api.RuleProg{Sig: sig, Rules: lists.Map(p.Rules, rule)}
}

func rule(r api.RuleRule) api.RuleRule {
	return api.RuleRule{Fun: r.Fun, Pats: lists.Map(r.Pats, Term), Rhs: Term(r.Rhs), Vars: r.Vars}
}
