package class_test

import (
	"slices"

	"swingle/api"
	"swingle/kind"
)

// This file says what the definitions say, on the data of package api, as
// literally as it can.

// put puts types in for type variables, by their numbers.
func put(t api.KindType, types []api.KindType) api.KindType {
	if t.Sort == api.KindVar {
		if t.N < len(types) {
			return types[t.N]
		}
		return t
	}
	return api.KindType{Sort: t.Sort, N: t.N, Parts: each(t.Parts, func(p api.KindType) api.KindType { return put(p, types) })}
}

func putPred(p api.ClassPred, types []api.KindType) api.ClassPred {
	return pred(p.Class, put(p.Type, types))
}

func putPreds(list []api.ClassPred, types []api.KindType) []api.ClassPred {
	return each(list, func(p api.ClassPred) api.ClassPred { return putPred(p, types) })
}

func samePred(a, b api.ClassPred) bool { return a.Class == b.Class && sameType(a.Type, b.Type) }

// refHead is an instance's head.
func refHead(w api.ClassWorld, i api.ClassInst) api.KindType {
	made := api.KindType{Sort: i.Sort, N: i.N}
	many := 0
	switch i.Sort {
	case api.KindFun:
		many = 2
	case api.KindOfData:
		many = w.Datas[i.N].Params
	}
	for v := range many {
		made.Parts = append(made.Parts, typeVar(v))
	}
	return made
}

// refIsProof is the definition of a proof.
func refIsProof(w api.ClassWorld, givens []api.ClassPred, goal api.ClassPred, d api.ClassDict) bool {
	switch d.Op {
	case api.ClassGiven:
		return len(d.Kids) == 0 && d.N >= 0 && d.N < len(givens) && samePred(givens[d.N], goal)
	case api.ClassUp:
		if len(d.Kids) != 1 || d.N < 0 || d.N >= len(w.Above) || !slices.Contains(w.Above[d.N], goal.Class) {
			return false
		}
		return refIsProof(w, givens, pred(d.N, goal.Type), d.Kids[0])
	case api.ClassBy:
		if d.N < 0 || d.N >= len(w.Insts) || w.Insts[d.N].Class != goal.Class {
			return false
		}
		i := w.Insts[d.N]
		if !sameType(put(refHead(w, i), goal.Type.Parts), goal.Type) || len(d.Kids) != len(i.Needs) {
			return false
		}
		for n, need := range i.Needs {
			if !refIsProof(w, givens, putPred(need, goal.Type.Parts), d.Kids[n]) {
				return false
			}
		}
		return true
	}
	return false
}

// refWays are all lists of classes that lead up from one class to another one.
func refWays(w api.ClassWorld, from, to int) [][]int {
	if from == to {
		return [][]int{{}}
	}
	var list [][]int
	for _, next := range w.Above[from] {
		for _, rest := range refWays(w, next, to) {
			list = append(list, append([]int{next}, rest...))
		}
	}
	return list
}

// refFirst returns the first proof, if there is one.
func refFirst(w api.ClassWorld, givens []api.ClassPred, goal api.ClassPred) (api.ClassDict, bool) {
	for n, g := range givens {
		if samePred(g, goal) {
			return given(n), true
		}
	}
	for n, g := range givens {
		ways := refWays(w, g.Class, goal.Class)
		if !sameType(g.Type, goal.Type) || len(ways) == 0 {
			continue
		}
		proof, at := given(n), g.Class
		for _, next := range slices.MinFunc(ways, slices.Compare[[]int]) {
			proof, at = up(at, proof), next
		}
		return proof, true
	}
	for n, i := range w.Insts {
		if i.Class != goal.Class || !sameType(put(refHead(w, i), goal.Type.Parts), goal.Type) {
			continue
		}
		made := by(n)
		for _, need := range i.Needs {
			kid, ok := refFirst(w, givens, putPred(need, goal.Type.Parts))
			if !ok {
				return api.ClassDict{}, false
			}
			made.Kids = append(made.Kids, kid)
		}
		return made, true
	}
	return api.ClassDict{}, false
}

// refCovered returns the first instance that is not covered, or -1.
func refCovered(w api.ClassWorld) int {
	return slices.IndexFunc(w.Insts, func(i api.ClassInst) bool {
		return slices.ContainsFunc(w.Above[i.Class], func(class int) bool {
			_, ok := refFirst(w, i.Needs, pred(class, refHead(w, i)))
			return !ok
		})
	})
}

// refNormal brings a proof of a predicate in a class to normal form, from the leaves to the root.
func refNormal(w api.ClassWorld, class int, d api.ClassDict) api.ClassDict {
	switch d.Op {
	case api.ClassBy:
		made := by(d.N)
		for n, need := range w.Insts[d.N].Needs {
			made.Kids = append(made.Kids, refNormal(w, need.Class, d.Kids[n]))
		}
		return made
	case api.ClassUp:
		kid := refNormal(w, d.N, d.Kids[0])
		if kid.Op != api.ClassBy {
			return up(d.N, kid)
		}
		i := w.Insts[kid.N]
		first, _ := refFirst(w, i.Needs, pred(class, refHead(w, i)))
		return refNormal(w, class, fill(first, kid.Kids))
	}
	return given(d.N)
}

// fill replaces each ClassGiven by the proof with its number.
func fill(d api.ClassDict, proofs []api.ClassDict) api.ClassDict {
	if d.Op == api.ClassGiven {
		return proofs[d.N]
	}
	return api.ClassDict{Op: d.Op, N: d.N, Kids: each(d.Kids, func(k api.ClassDict) api.ClassDict { return fill(k, proofs) })}
}

// refDown replaces predicates by what their instances need, until all are of type variables.
func refDown(w api.ClassWorld, list []api.ClassPred) ([]api.ClassPred, bool) {
	var made []api.ClassPred
	for _, p := range list {
		if p.Type.Sort == api.KindVar {
			made = append(made, p)
			continue
		}
		n := slices.IndexFunc(w.Insts, func(i api.ClassInst) bool {
			return i.Class == p.Class && sameType(put(refHead(w, i), p.Type.Parts), p.Type)
		})
		if n < 0 {
			return nil, false
		}
		more, ok := refDown(w, putPreds(w.Insts[n].Needs, p.Type.Parts))
		if !ok {
			return nil, false
		}
		made = append(made, more...)
	}
	return made, true
}

func refReduce(w api.ClassWorld, list []api.ClassPred) ([]api.ClassPred, api.Errno) {
	all, ok := refDown(w, list)
	if !ok {
		return nil, api.ErrNone
	}
	var made []api.ClassPred
	for v := range api.KindVars {
		for class := range w.Above {
			here := pred(class, typeVar(v))
			is := func(p api.ClassPred) bool { return samePred(p, here) }
			below := func(p api.ClassPred) bool {
				return p.Class != class && sameType(p.Type, here.Type) && len(refWays(w, p.Class, class)) > 0
			}
			if slices.ContainsFunc(all, is) && !slices.ContainsFunc(all, below) {
				made = append(made, here)
			}
		}
	}
	if len(made) > 8 {
		return nil, api.ErrLong
	}
	return made, api.OK
}

// refPlaces returns the context, and the places with their dictionaries and their own error.
func refPlaces(w api.ClassWorld, m api.ReadModule, funs []api.ClassFun, t api.Term) (context []api.ClassPred, places []api.ClassPlace, e, placesError api.Errno) {
	if _, _, e := kind.Infer(m, t); e != api.OK {
		return nil, nil, e, e
	}
	uses, e := kind.Uses(m, t)
	if e != api.OK {
		return nil, nil, e, e
	}
	var all []api.ClassPred
	var needs [][]api.ClassPred
	for _, u := range uses {
		n := slices.IndexFunc(funs, func(f api.ClassFun) bool { return f.Fun == u.Fun })
		if n < 0 {
			continue
		}
		here := putPreds(funs[n].Needs, u.Types)
		all = append(all, here...)
		needs = append(needs, here)
		places = append(places, api.ClassPlace{Node: u.Node})
	}
	if slices.ContainsFunc(all, func(p api.ClassPred) bool { return countNodes(p.Type) > 8 }) {
		return nil, nil, api.ErrLong, api.ErrLong
	}
	context, e = refReduce(w, all)
	if e != api.OK {
		return nil, nil, e, e
	}
	for n := range places {
		for _, need := range needs[n] {
			proof, _ := refFirst(w, context, need)
			if countSteps(proof) > 200 {
				return context, nil, api.OK, api.ErrLong
			}
			places[n].Dicts = append(places[n].Dicts, proof)
		}
	}
	return context, places, api.OK, api.OK
}
