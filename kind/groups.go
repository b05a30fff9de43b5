package kind

import (
	"swingle/api"
	"swingle/tree"
)

// set is a set of functions: the bit f is there for the function f.
type set uint64

func (s set) has(fun int) bool { return s&(1<<fun) != 0 }

func (s set) list() []int {
	var funs []int
	for f := range api.TermFuns {
		if s.has(f) {
			funs = append(funs, f)
		}
	}
	return funs
}

// calls has for each function those that it calls.
type calls [api.TermFuns]set

func callsOf(p api.RuleProg) calls {
	var c calls
	for _, r := range p.Rules {
		for n := range tree.Nodes(r.Rhs, tree.Kids) {
			if n.Op == api.TermFun || n.Op == api.TermPart {
				c[r.Fun] |= 1 << n.N
			}
		}
	}
	for more := c.further(); more != c; more = c.further() {
		c = more
	}
	return c
}

// further adds those that are called by those that are called.
func (c calls) further() calls {
	more := c
	for f := range c {
		for _, g := range c[f].list() {
			more[f] |= c[g]
		}
	}
	return more
}

func (c calls) group(fun int) set {
	group := set(1) << fun
	for _, g := range c[fun].list() {
		if c[g].has(fun) {
			group |= 1 << g
		}
	}
	return group
}

// next returns the group behind those whose functions are done, of so many
// functions; there is always one, as long as not all of them are done.
func (c calls) next(done set, funs int) set {
	for f := range funs {
		group := c.group(f)
		if !done.has(f) && c[f]&^(done|group) == 0 {
			return group
		}
	}
	return 0
}

// groups returns all groups, in order.
func groups(p api.RuleProg) []set {
	c, funs := callsOf(p), len(p.Sig.Funs)
	var list []set
	var done set
	for group := c.next(done, funs); group != 0; group = c.next(done, funs) {
		list = append(list, group)
		done |= group
	}
	return list
}
