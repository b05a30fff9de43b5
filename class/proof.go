package class

import (
	"slices"

	"swingle/api"
	"swingle/attempt"
)

// step is a step of a proof, with the proofs that it is made of. Several steps
// can have the same kid.
type step interface {
	dict() api.ClassDict
}

// given is a predicate that is given.
type given struct {
	n int
}

// up is a step from a class to one above it.
type up struct {
	class, from int
	kid         step
}

// by is an instance, with a proof for each of its needs.
type by struct {
	inst int
	kids []step
}

func (s given) dict() api.ClassDict { return api.ClassDict{Op: api.ClassGiven, N: s.n} }

func (s up) dict() api.ClassDict {
	return api.ClassDict{Op: api.ClassUp, N: s.from, Kids: []api.ClassDict{s.kid.dict()}}
}

func (s by) dict() api.ClassDict {
	made := api.ClassDict{Op: api.ClassBy, N: s.inst}
	for _, k := range s.kids {
		made.Kids = append(made.Kids, k.dict())
	}
	return made
}

// written returns a proof as a dictionary, or gives up if it is not small.
func written(s step) api.ClassDict {
	made := s.dict()
	if !small(made) {
		panic(attempt.GiveUp{Why: api.ErrLong})
	}
	return made
}

// read returns a proof of a predicate as steps, or gives up if it is none.
func (p *prover) read(givens []api.ClassPred, goal api.ClassPred, d api.ClassDict) step {
	switch {
	case d.Op == api.ClassGiven && len(d.Kids) == 0 && 0 <= d.N && d.N < len(givens) && samePred(givens[d.N], goal):
		return given{d.N}
	case d.Op == api.ClassUp && len(d.Kids) == 1 && isClass(p.ClassWorld, d.N) && slices.Contains(p.Above[d.N], goal.Class):
		below := api.ClassPred{Class: d.N, Type: goal.Type}
		return up{class: goal.Class, from: d.N, kid: p.read(givens, below, d.Kids[0])}
	case d.Op == api.ClassBy && d.N == p.instance(goal.Class, goal.Type) && len(d.Kids) == len(p.Insts[d.N].Needs):
		made := by{inst: d.N}
		for i, need := range p.needs(d.N, goal.Type) {
			made.kids = append(made.kids, p.read(givens, need, d.Kids[i]))
		}
		return made
	}
	panic(attempt.GiveUp{Why: api.ErrNone})
}

// asGiven leaves what is given as it is.
func asGiven(s given) step { return s }

// normal returns a proof in normal form, with proofs that are in normal form in
// place of what is given.
func (p *prover) normal(s step, put func(given) step) step {
	switch s := s.(type) {
	case given:
		return put(s)
	case up:
		return p.raised(p.normal(s.kid, put), s)
	case by:
		made := by{inst: s.inst}
		for _, k := range s.kids {
			made.kids = append(made.kids, p.normal(k, put))
		}
		return made
	}
	return s
}

// raised returns the step up from a proof in normal form, in normal form.
func (p *prover) raised(proof step, last up) step {
	instance, ok := proof.(by)
	if !ok {
		return up{class: last.class, from: last.from, kid: proof}
	}
	i := p.Insts[instance.inst]
	covers := p.first(i.Needs, api.ClassPred{Class: last.class, Type: p.head(i)})
	return p.normal(covers, func(g given) step { return instance.kids[g.n] })
}
