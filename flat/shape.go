package flat

import (
	"slices"

	"swingle/api"
	"swingle/lists"
)

// spot is what stands in a shape in place of a variable: the variable itself,
// or a constructor, whose arguments are the variables from first on.
type spot struct {
	con   int
	first int
}

const itself = -1 // in place of a constructor

// shape is the shape that a tree goes with: a spot for each number that was
// given. None of its memory is changed.
type shape []spot

// next returns the next variables.
func (s shape) next(many int) []int {
	var vars []int
	for i := range many {
		vars = append(vars, len(s)+i)
	}
	return vars
}

// given returns the shape with so many numbers more.
func (s shape) given(many int) shape {
	return append(slices.Clone(s), slices.Repeat([]spot{{con: itself}}, many)...)
}

// with returns the shape with a constructor in place of a variable, whose
// arguments are the next variables.
func (s shape) with(v, con, args int) shape {
	made := s.given(args)
	made[v] = spot{con, len(s)}
	return made
}

// has returns whether a variable is one of the shape's.
func (s shape) has(v int) bool { return lists.Has(s, v) && s[v].con == itself }

// at returns the variable that stands, or stood, at a position.
func (s shape) at(path []int) int {
	v := path[0]
	for _, n := range path[1:] {
		v = s[v].first + n
	}
	return v
}

// places returns for each variable of a rule the shape's one that stands where
// this one stands in Pats, or -1; and whether Pats are the shape, but for the
// variables.
func (s shape) places(r api.RuleRule) ([]int, bool) {
	vars := slices.Repeat([]int{-1}, r.Vars)
	var is func(v int, pat api.Term) bool
	is = func(v int, pat api.Term) bool {
		if pat.Op == api.TermVar {
			vars[pat.N] = v
			return s.has(v)
		}
		if s[v].con != pat.N {
			return false
		}
		for i, kid := range pat.Kids {
			if !is(s[v].first+i, kid) {
				return false
			}
		}
		return true
	}
	for i, pat := range r.Pats {
		if !is(i, pat) {
			return nil, false
		}
	}
	return vars, true
}
