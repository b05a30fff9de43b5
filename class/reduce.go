package class

import (
	"swingle/api"
	"swingle/attempt"
)

// left has for each type variable the classes that it is to be in.
type left [api.KindVars]classes

// reduced returns what predicates come down to, or gives up.
func (p *prover) reduced(list []api.ClassPred) []api.ClassPred {
	var all left
	for _, x := range list {
		p.down(1<<x.Class, x.Type, &all)
	}
	var made []api.ClassPred
	for v, wanted := range all {
		for class := range p.notAbove(wanted).all() {
			made = append(made, api.ClassPred{Class: class, Type: typeVar(v)})
		}
	}
	if len(made) > api.ClassGivens {
		panic(attempt.GiveUp{Why: api.ErrLong})
	}
	return made
}

// down adds what comes down from the predicates that a type is in some classes.
// All of these are brought down at once, so that each part is come to once.
func (p *prover) down(wanted classes, t api.KindType, all *left) {
	if t.Sort == api.KindVar {
		all[t.N] |= wanted
		return
	}
	parts := make([]classes, len(t.Parts))
	for class := range wanted.all() {
		for _, need := range p.Insts[p.instance(class, t)].Needs {
			parts[need.Type.N] |= 1 << need.Class
		}
	}
	for i, part := range t.Parts {
		p.down(parts[i], part, all)
	}
}

// notAbove returns the classes of a set that are not above others of it.
func (p *prover) notAbove(set classes) classes {
	rest := set
	for class := range set.all() {
		rest &^= p.above[class]
	}
	return rest
}
