package formed

import (
	"swingle/api"
	"swingle/term"
	"swingle/tree"
)

// ruleFormed returns whether a rule is formed, for a signature that is.
func ruleFormed(s api.TermSig, r api.RuleRule) bool {
	if r.Fun < 0 || r.Fun >= len(s.Funs) || len(r.Pats) != s.Funs[r.Fun].Args {
		return false
	}
	if r.Vars < 0 || r.Vars > api.TermVars || term.Check(s, r.Rhs) != api.OK {
		return false
	}
	b := binder{vars: r.Vars}
	for _, p := range r.Pats {
		is, e := term.IsPattern(s, p)
		if e != api.OK || !is || !b.pattern(p) {
			return false
		}
	}
	return b.right(r.Rhs)
}

// binder has how many variables a rule has, and which of them its Pats have, or a TermLet binds.
type binder struct {
	vars  int
	bound [api.TermVars]bool
}

// binds returns whether a variable can be bound, and binds it.
func (b *binder) binds(v int) bool {
	if v >= b.vars || b.bound[v] {
		return false
	}
	b.bound[v] = true
	return true
}

func (b *binder) pattern(p api.Term) bool {
	for n := range tree.Nodes(p, tree.Kids) {
		if n.Op == api.TermVar && !b.binds(n.N) {
			return false
		}
	}
	return true
}

func (b *binder) right(rhs api.Term) bool {
	for n := range tree.Nodes(rhs, tree.Kids) {
		switch {
		case n.Op == api.TermVar && n.N >= b.vars:
			return false
		case n.Op == api.TermLet && !b.binds(n.N):
			return false
		case n.Op == api.TermLet && times(n.N, rhs) != times(n.N, n.Kids[1]):
			return false
		}
	}
	return true
}

// times counts how often a variable stands in an expression.
func times(v int, t api.Term) int {
	count := 0
	for n := range tree.Nodes(t, tree.Kids) {
		if n.Op == api.TermVar && n.N == v {
			count++
		}
	}
	return count
}
