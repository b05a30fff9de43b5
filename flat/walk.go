package flat

import (
	"slices"

	"swingle/api"
	"swingle/tree"
)

// walk goes through the tree of a function of a flat program.
type walk struct {
	api.FlatProg
	fun int
}

// visitor goes one way through a tree.
type visitor interface {
	meets(node api.FlatTree)                      // a node that the way has come to
	takes(v int, alt api.FlatAlt) (visitor, bool) // who goes on with an Alt of a case of a variable, if somebody does
}

// station is a node to which a visitor has come.
type station struct {
	api.FlatTree
	by visitor
}

// beyond returns the stations behind one.
func beyond(s station) []station {
	var list []station
	for _, kid := range s.Kids {
		list = append(list, station{kid, s.by})
	}
	for _, alt := range s.Alts {
		if next, ok := s.by.takes(s.Var, alt); ok {
			list = append(list, station{alt.Then, next})
		}
	}
	return list
}

// lead leads a visitor, and those who go on for it, from the root to all nodes
// on their ways: a node is met before it is asked what is behind it.
func (w walk) lead(first visitor) {
	for s := range tree.Nodes(station{w.Trees[w.fun], first}, beyond) {
		s.by.meets(s.FlatTree)
	}
}

// variables says of each variable of a tree whether something is so.
type variables [api.FlatVars]bool

// chosen returns the numbers for which something is so.
func chosen(is []bool) []int {
	var list []int
	for n, so := range is {
		if so {
			list = append(list, n)
		}
	}
	return list
}

// follower is a visitor that goes where values lead: it has one for each
// variable that was given.
type follower struct {
	*trail
	values []api.Term
}

// trail is what followers have met.
type trail struct {
	rules []int
	asked variables
}

func (by follower) meets(node api.FlatTree) {
	switch node.Op {
	case api.FlatCase:
		by.asked[node.Var] = true
	case api.FlatRule:
		by.rules = append(by.rules, node.Rule)
	}
}

func (by follower) takes(v int, alt api.FlatAlt) (visitor, bool) {
	value := by.values[v]
	if value.Op != api.TermCon || value.N != alt.Con {
		return by, false
	}
	return follower{by.trail, append(slices.Clone(by.values), value.Kids...)}, true
}

// witness is a visitor that goes all ways. It knows the variables that its own
// way has asked, and tells those without which somebody came to a rule.
type witness struct {
	asked  variables
	missed *variables
}

func (by witness) meets(node api.FlatTree) {
	if node.Op != api.FlatRule {
		return
	}
	for v, asked := range by.asked {
		if !asked {
			by.missed[v] = true
		}
	}
}

func (by witness) takes(v int, alt api.FlatAlt) (visitor, bool) {
	by.asked[v] = true
	return by, true
}
