package logic

import (
	"slices"

	"swingle/api"
	"swingle/attempt"
	"swingle/fresh"
	"swingle/lists"
	"swingle/term"
	"swingle/tree"
)

// content is what may stand at a node of a partial value.
type content interface {
	fits(s api.TermSig) bool // whether the node is as it must be
}

// The contents: each one is the node itself.
type (
	bottom      api.Term
	variable    api.Term
	integer     api.Term
	constructor api.Term
	part        api.Term
)

// contentOf returns what stands at a node, if that may stand in a partial value.
func contentOf(t api.Term) (content, bool) {
	switch t.Op {
	case api.TermBot:
		return bottom(t), true
	case api.TermVar:
		return variable(t), true
	case api.TermInt:
		return integer(t), true
	case api.TermCon:
		return constructor(t), true
	case api.TermPart:
		return part(t), true
	}
	return nil, false
}

func (t bottom) fits(api.TermSig) bool {
	return t.N == 0 && len(t.Kids) == 0
}

func (t variable) fits(api.TermSig) bool {
	return 0 <= t.N && t.N < api.LogicVars && len(t.Kids) == 0
}

func (t integer) fits(api.TermSig) bool {
	return -api.TermMost <= t.N && t.N <= api.TermMost && len(t.Kids) == 0
}

func (t constructor) fits(s api.TermSig) bool {
	return lists.Has(s.Cons, t.N) && len(t.Kids) == s.Cons[t.N].Args
}

func (t part) fits(s api.TermSig) bool {
	return lists.Has(s.Funs, t.N) && len(t.Kids) < s.Funs[t.N].Args
}

// within returns whether a tree has at most so many nodes and so much depth,
// and something is so for each node. A node is asked before those below it, so
// that this also ends for trees that are endless.
func within[T any](top T, under func(T) []T, nodes, depth int, is func(T) bool) bool {
	count := 0
	for level, node := range tree.Levels(top, under) {
		count++
		if count > nodes || level > depth || !is(node) {
			return false
		}
	}
	return true
}

// isVal returns whether something is a partial value; the signature need not be formed.
func isVal(s api.TermSig, v api.Term) bool {
	isNode := func(t api.Term) bool {
		what, ok := contentOf(t)
		return ok && what.fits(s)
	}
	return within(v, tree.Kids, api.LogicVal, api.LogicHigh, isNode)
}

func areVals(s api.TermSig, list []api.Term) bool {
	return lists.All(list, func(v api.Term) bool { return isVal(s, v) })
}

// areChecked returns whether a signature is formed, and some partial values are as defined for it.
func areChecked(s api.TermSig, list ...api.Term) bool {
	return term.CheckSig(s) == api.OK && areVals(s, list)
}

// known returns whether a partial value is total, and whether it is ground.
func known(v api.Term) (total, ground bool) {
	total, ground = true, true
	for t := range tree.Nodes(v, tree.Kids) {
		what, _ := contentOf(t)
		switch what.(type) {
		case bottom:
			total, ground = false, false
		case variable:
			ground = false
		}
	}
	return total, ground
}

func isTotal(v api.Term) bool {
	total, _ := known(v)
	return total
}

func isGround(v api.Term) bool {
	_, ground := known(v)
	return ground
}

func below(a, b api.Term) bool {
	return a.Op == api.TermBot || a.Op == b.Op && a.N == b.N && slices.EqualFunc(a.Kids, b.Kids, below)
}

func same(a, b api.Term) bool {
	return a.Op == b.Op && a.N == b.N && slices.EqualFunc(a.Kids, b.Kids, same)
}

// join returns the join of two partial values, however large it is, or gives up.
func join(a, b api.Term) api.Term {
	switch {
	case a.Op == api.TermBot:
		return fresh.Term(b)
	case b.Op == api.TermBot:
		return fresh.Term(a)
	case a.Op != b.Op || a.N != b.N || len(a.Kids) != len(b.Kids):
		panic(attempt.GiveUp{Why: api.ErrNone})
	}
	made := api.Term{Op: a.Op, N: a.N}
	for i := range a.Kids {
		made.Kids = append(made.Kids, join(a.Kids[i], b.Kids[i]))
	}
	return made
}

// notTooLarge gives up if something that was made of partial values is too
// large to be one.
func notTooLarge(s api.TermSig, v api.Term) api.Term {
	if !isVal(s, v) {
		panic(attempt.GiveUp{Why: api.ErrLong})
	}
	return v
}

// values has what is put in for variables, all at once.
type values map[int]api.Term

func valuesOf(l []api.TermBind) values {
	made := values{}
	for _, b := range l {
		made[b.Var] = b.Term
	}
	return made
}

func (l values) put(t api.Term) api.Term {
	if v, ok := l[t.N]; ok && t.Op == api.TermVar {
		return fresh.Term(v)
	}
	return api.Term{Op: t.Op, N: t.N, Kids: lists.Map(t.Kids, l.put)}
}

// areBinds returns whether bindings are of variables that increase, with total
// Terms. It need not count them: there are no more variables that increase.
func areBinds(s api.TermSig, l []api.TermBind) bool {
	before := -1
	return lists.All(l, func(b api.TermBind) bool {
		increases := before < b.Var && b.Var < api.LogicVars
		before = b.Var
		return increases && isVal(s, b.Term) && isTotal(b.Term)
	})
}
