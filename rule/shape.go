package rule

import (
	"iter"
	"slices"

	"swingle/api"
)

// position is a path to an argument, or to a part of one. The numbers of the
// path are one greater here, as 0 stands behind the last one. It has room for
// each position of a pattern's constructor, as none is deeper than TermDepth.
type position [api.TermDepth]int

func (at position) path() []int {
	var path []int
	for _, n := range at {
		if n > 0 {
			path = append(path, n-1)
		}
	}
	return path
}

// shape is the arguments of a program's function: a shape, whose variables all
// have the number 0, or values. None of its memory is changed.
type shape struct {
	api.RuleProg
	args []api.Term
}

// shapeOf returns the shape of a function whose arguments are variables.
func shapeOf(p api.RuleProg, fun int) shape {
	return shape{p, variables(p.Sig.Funs[fun].Args)}
}

func variables(n int) []api.Term {
	return slices.Repeat([]api.Term{{Op: api.TermVar}}, n)
}

// fits returns whether a rule fits a shape.
func (s shape) fits(rule int) bool {
	return slices.EqualFunc(s.args, s.Rules[rule].Pats, compatible)
}

func compatible(t, pat api.Term) bool {
	if t.Op == api.TermVar || pat.Op == api.TermVar {
		return true
	}
	return t.Op == pat.Op && t.N == pat.N && slices.EqualFunc(t.Kids, pat.Kids, compatible)
}

// matches returns whether a rule matches a shape, or values.
func (s shape) matches(rule int) bool {
	if !s.fits(rule) {
		return false
	}
	for range s.needs(rule) {
		return false
	}
	return true
}

// needs goes through the positions that a rule needs which fits, in
// lexicographic order.
func (s shape) needs(rule int) iter.Seq[position] {
	return func(yield func(position) bool) {
		var visit func(at position, depth int, terms, pats []api.Term) bool
		visit = func(at position, depth int, terms, pats []api.Term) bool {
			for i, pat := range pats {
				if pat.Op == api.TermVar {
					continue
				}
				at[depth] = i + 1
				if terms[i].Op == api.TermVar {
					if !yield(at) {
						return false
					}
				} else if !visit(at, depth+1, terms[i].Kids, pat.Kids) {
					return false
				}
			}
			return true
		}
		visit(position{}, 0, s.args, s.Rules[rule].Pats)
	}
}

// firstNeeded returns the first position that a rule needs which fits, but does not match.
func (s shape) firstNeeded(rule int) position {
	for at := range s.needs(rule) {
		return at
	}
	return position{}
}

// neededByAll returns the first position that all of some rules need, if there is one.
func (s shape) neededByAll(rules []int) (position, bool) {
	count := map[position]int{}
	for _, rule := range rules {
		for at := range s.needs(rule) {
			count[at]++
		}
	}
	for at := range s.needs(rules[0]) {
		if count[at] == len(rules) {
			return at, true
		}
	}
	return position{}, false
}

// con returns the constructor that a rule has at a position which it needs.
func (s shape) con(rule int, at position) int {
	pats := s.Rules[rule].Pats
	var found api.Term
	for _, n := range at.path() {
		found = pats[n]
		pats = found.Kids
	}
	return found.N
}

// with returns the shape with a constructor at the position of a variable.
func (s shape) with(at position, con int) shape {
	var put func(terms []api.Term, path []int) []api.Term
	put = func(terms []api.Term, path []int) []api.Term {
		made := slices.Clone(terms)
		n := path[0]
		if len(path) == 1 {
			made[n] = api.Term{Op: api.TermCon, N: con, Kids: variables(s.Sig.Cons[con].Args)}
		} else {
			made[n].Kids = put(made[n].Kids, path[1:])
		}
		return made
	}
	return shape{s.RuleProg, put(s.args, at.path())}
}
