package rule

import (
	"slices"

	"swingle/api"
	"swingle/attempt"
	"swingle/term"
)

// missing returns the shape that is missing, or gives up. Shapes that are still
// to be looked at are on a stack, the next one on top.
func missing(p api.RuleProg, fun int, groups [][]int) []api.Term {
	rules := rulesOf(p, fun)
	stack := []shape{shapeOf(p, fun)}
	looks := 0
search:
	for len(stack) > 0 {
		s := stack[len(stack)-1]
		stack = stack[:len(stack)-1]
		looks++
		if looks > api.RuleLooks {
			panic(attempt.GiveUp{Why: api.ErrLong})
		}
		fitting, _ := divide(rules, s.fits)
		if len(fitting) == 0 {
			return s.written()
		}
		for _, rule := range fitting {
			if s.matches(rule) {
				continue search
			}
		}
		stack = append(stack, s.split(fitting[0], groups)...)
	}
	panic(attempt.GiveUp{Why: api.ErrNone})
}

// split returns the shapes with the constructors of a group at the first
// position that a rule needs, the last one first.
func (s shape) split(rule int, groups [][]int) []shape {
	at := s.firstNeeded(rule)
	con := s.con(rule, at)
	var list []shape
	for _, group := range groups {
		if !slices.Contains(group, con) {
			continue
		}
		for _, c := range slices.Backward(group) {
			list = append(list, s.with(at, c))
		}
	}
	return list
}

// written returns the shape's arguments with its variables numbered, or gives
// up if one is not formed.
func (s shape) written() []api.Term {
	next := 0
	var number func(t api.Term) api.Term
	number = func(t api.Term) api.Term {
		if t.Op == api.TermVar {
			t.N = next
			next++
			return t
		}
		made := api.Term{Op: t.Op, N: t.N}
		for _, kid := range t.Kids {
			made.Kids = append(made.Kids, number(kid))
		}
		return made
	}
	var args []api.Term
	for _, t := range s.args {
		arg := number(t)
		if term.Check(s.Sig, arg) != api.OK {
			panic(attempt.GiveUp{Why: api.ErrLong})
		}
		args = append(args, arg)
	}
	return args
}
