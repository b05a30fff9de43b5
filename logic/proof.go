package logic

import (
	"slices"

	"swingle/api"
	"swingle/lists"
)

func kids(f api.LogicProof) []api.LogicProof { return f.Kids }

// isProof returns whether a proof is as defined. It says nothing of what the
// proof proves, so that any Rule will do, and any Num of a LogicFun.
func isProof(s api.TermSig, f api.LogicProof) bool {
	isNode := func(f api.LogicProof) bool {
		if f.Rule != api.LogicFun && (f.Num != 0 || len(f.Binds) > 0) {
			return false
		}
		return len(f.Binds) <= api.TermVars && isVal(s, f.Value) && areVals(s, f.Binds)
	}
	return within(f, kids, api.LogicNodes, api.LogicDepth, isNode)
}

// rebuild returns a proof with what is made of its values.
func rebuild(f api.LogicProof, of func(api.Term) api.Term) api.LogicProof {
	again := func(kid api.LogicProof) api.LogicProof { return rebuild(kid, of) }
	value := of(f.Value)
	binds := lists.Map(f.Binds, of)
	return api.LogicProof{Rule: f.Rule, Value: value, Num: f.Num, Binds: binds, Kids: lists.Map(f.Kids, again)}
}

// lowered returns a proof of v, which is below the Value of a proof that is
// accepted. All its nodes come of nodes of this one, so that it is not larger,
// and has no more calls; it shares memory with it.
func lowered(f api.LogicProof, v api.Term) api.LogicProof {
	if v.Op == api.TermBot {
		return api.LogicProof{Rule: api.LogicBot, Value: v}
	}
	f.Value = v
	f.Kids = slices.Clone(f.Kids)
	last := len(f.Kids) - 1
	switch {
	case f.Rule == api.LogicCon || f.Rule == api.LogicPart:
		for i, kid := range f.Kids {
			f.Kids[i] = lowered(kid, v.Kids[i])
		}
	case f.Rule == api.LogicApply && last == 1: // the argument is the last one of v
		held := len(v.Kids) - 1
		f.Kids[0] = lowered(f.Kids[0], api.Term{Op: v.Op, N: v.N, Kids: v.Kids[:held]})
		f.Kids[1] = lowered(f.Kids[1], v.Kids[held])
	case passesOn(f.Rule):
		f.Kids[last] = lowered(f.Kids[last], v)
	}
	return f
}

// passesOn returns whether the Value of a node is that of its last Kid; of a
// LogicApply's only where it makes a call. The Kids of other nodes, but of those
// that build values, can stay: only TermBot is below what they are there for.
func passesOn(r api.LogicRule) bool {
	switch r {
	case api.LogicFun, api.LogicLeft, api.LogicRight, api.LogicLet, api.LogicWhen, api.LogicApply:
		return true
	}
	return false
}
