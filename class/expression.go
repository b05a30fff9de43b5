package class

import (
	"cmp"
	"iter"
	"slices"

	"swingle/api"
	"swingle/attempt"
	"swingle/kind"
	"swingle/tree"
)

// expression is an expression's uses of functions, some of which need something.
type expression struct {
	*prover
	uses []api.KindUse
	funs map[int][]api.ClassPred // the needs of functions that need something
}

// expressionOf returns an expression of a module, or the error of all of it.
func expressionOf(w api.ClassWorld, m api.ReadModule, funs []api.ClassFun, t api.Term) (expression, api.Errno) {
	_, _, typed := kind.Infer(m, t)
	p, e := proverOf(w)
	switch {
	case e == api.ErrArg || typed == api.ErrArg:
		return expression{}, api.ErrArg
	case e != api.OK:
		return expression{}, e
	case typed != api.OK:
		return expression{}, typed
	case !funsFormed(w, m, funs):
		return expression{}, api.ErrArg
	}
	uses, e := kind.Uses(m, t)
	x := expression{p, uses, map[int][]api.ClassPred{}}
	for _, f := range funs {
		x.funs[f.Fun] = f.Needs
	}
	return x, e
}

// funsFormed returns whether functions that need something are formed, for a module that has types.
func funsFormed(w api.ClassWorld, m api.ReadModule, funs []api.ClassFun) bool {
	types, _ := kind.Types(m)
	wrong := func(f api.ClassFun) bool {
		return f.Fun < 0 || f.Fun >= len(types) || !needsFormed(w, f.Needs, varsOf(types[f.Fun]))
	}
	byFun := func(a, b api.ClassFun) int { return cmp.Compare(a.Fun, b.Fun) }
	if len(funs) > len(types) || slices.ContainsFunc(funs, wrong) || !increases(funs, byFun) {
		return false
	}
	return slices.EqualFunc(w.Datas, m.Datas, sameData)
}

// varsOf returns which type variables stand in a type.
func varsOf(t api.KindType) func(n int) bool {
	return func(n int) bool {
		for part := range tree.Nodes(t, tree.Parts) {
			if part.Sort == api.KindVar && part.N == n {
				return true
			}
		}
		return false
	}
}

func sameData(a, b api.KindData) bool {
	sameTypes := func(x, y []api.KindType) bool { return slices.EqualFunc(x, y, sameType) }
	return a.Name == b.Name && a.Params == b.Params && slices.EqualFunc(a.Cons, b.Cons, sameTypes)
}

// places goes through the places of the expression: the number of the node, and
// the needs there. It gives up at one that is not formed.
func (x expression) places() iter.Seq2[int, []api.ClassPred] {
	return func(yield func(int, []api.ClassPred) bool) {
		for _, u := range x.uses {
			needs, ok := x.funs[u.Fun]
			if ok && !yield(u.Node, needsThere(needs, u.Types)) {
				return
			}
		}
	}
}

// needsThere returns the needs of a function with the types of a use put in.
func needsThere(needs []api.ClassPred, types []api.KindType) []api.ClassPred {
	var list []api.ClassPred
	for _, need := range needs {
		t := types[need.Type.N]
		if nodes(t, tree.Parts) > api.ClassNodes {
			panic(attempt.GiveUp{Why: api.ErrLong})
		}
		list = append(list, api.ClassPred{Class: need.Class, Type: t})
	}
	return list
}

// context returns what the needs of all places together come down to.
func (x expression) context() []api.ClassPred {
	var all []api.ClassPred
	for _, needs := range x.places() {
		all = append(all, needs...)
	}
	return x.reduced(all)
}

// dictionaries returns the places with the first proofs of their needs.
func (x expression) dictionaries() []api.ClassPlace {
	givens := x.context()
	var made []api.ClassPlace
	for node, needs := range x.places() {
		place := api.ClassPlace{Node: node}
		for _, need := range needs {
			place.Dicts = append(place.Dicts, written(x.first(givens, need)))
		}
		made = append(made, place)
	}
	return made
}
