package class

import (
	"iter"
	"slices"

	"swingle/api"
	"swingle/attempt"
)

// classes is a set of classes: the bit c is there for the class c.
type classes uint64

func (s classes) has(class int) bool { return s&(1<<class) != 0 }

// all goes through the classes of a set, the least one first.
func (s classes) all() iter.Seq[int] {
	return func(yield func(int) bool) {
		for class := range api.ClassMost {
			if s.has(class) && !yield(class) {
				return
			}
		}
	}
}

// prover is a world that is formed, with its instances by their heads, and for
// each class those that are above it by one step or more.
type prover struct {
	api.ClassWorld
	insts map[head]int
	above [api.ClassMost]classes
}

func newProver(w api.ClassWorld) *prover {
	p := &prover{ClassWorld: w, insts: map[head]int{}}
	for n, i := range p.Insts {
		p.insts[headOf(i)] = n
	}
	// What is above a class has a lesser number: it is known what is above that.
	for class, list := range p.Above {
		for _, c := range list {
			p.above[class] |= 1<<c | p.above[c]
		}
	}
	return p
}

// proverOf returns one for a world that is right, or the error of the world and of lists of predicates.
func proverOf(w api.ClassWorld, lists ...[]api.ClassPred) (*prover, api.Errno) {
	notFormed := func(l []api.ClassPred) bool { return !predsFormed(w, l) }
	if !worldFormed(w) || slices.ContainsFunc(lists, notFormed) {
		return nil, api.ErrArg
	}
	p := newProver(w)
	if _, found := p.notCovered(); found {
		return nil, api.ErrRule
	}
	return p, api.OK
}

// notCovered returns the first instance that is not covered, if there is one.
func (p *prover) notCovered() (int, bool) {
	for n, i := range p.Insts {
		for _, class := range p.Above[i.Class] {
			if !p.follows(i.Needs, api.ClassPred{Class: class, Type: p.head(i)}) {
				return n, true
			}
		}
	}
	return 0, false
}

// head returns the type that is an instance's head.
func (p *prover) head(i api.ClassInst) api.KindType {
	made := api.KindType{Sort: i.Sort, N: i.N}
	for v := range partsOf(p.Datas, i.Sort, i.N) {
		made.Parts = append(made.Parts, typeVar(v))
	}
	return made
}

func typeVar(n int) api.KindType { return api.KindType{Sort: api.KindVar, N: n} }

// instance returns the number of the instance for a class and a type, or gives up.
func (p *prover) instance(class int, t api.KindType) int {
	n, ok := p.insts[head{class, t.Sort, t.N}]
	if !ok {
		panic(attempt.GiveUp{Why: api.ErrNone})
	}
	return n
}

// needs returns the needs of the instance n, with the parts of a type put in.
func (p *prover) needs(n int, t api.KindType) []api.ClassPred {
	var list []api.ClassPred
	for _, need := range p.Insts[n].Needs {
		list = append(list, api.ClassPred{Class: need.Class, Type: t.Parts[need.Type.N]})
	}
	return list
}

// follows returns whether a predicate has a first proof; in a world that is
// right each one that has a proof does.
func (p *prover) follows(givens []api.ClassPred, goal api.ClassPred) bool {
	_, e := attempt.Do(func() step { return p.first(givens, goal) })
	return e == api.OK
}

// first returns the first proof of a predicate, or gives up.
func (p *prover) first(givens []api.ClassPred, goal api.ClassPred) step {
	var find func(goal api.ClassPred) step
	find = func(goal api.ClassPred) step {
		if s, ok := p.fromGivens(givens, goal); ok {
			return s
		}
		n := p.instance(goal.Class, goal.Type)
		made := by{inst: n}
		for _, need := range p.needs(n, goal.Type) {
			made.kids = append(made.kids, find(need))
		}
		return made
	}
	return find(goal)
}

// fromGivens returns the first proof of a predicate by steps up alone, if there is one.
func (p *prover) fromGivens(givens []api.ClassPred, goal api.ClassPred) (step, bool) {
	isGoal := func(x api.ClassPred) bool { return samePred(x, goal) }
	if n := slices.IndexFunc(givens, isGoal); n >= 0 {
		return given{n}, true
	}
	below := func(x api.ClassPred) bool { return p.above[x.Class].has(goal.Class) && sameType(x.Type, goal.Type) }
	if n := slices.IndexFunc(givens, below); n >= 0 {
		return p.climb(given{n}, givens[n].Class, goal.Class), true
	}
	return nil, false
}

// climb goes up from a proof for the class from to the class goal, each time to
// the least class from which the goal can be reached.
func (p *prover) climb(proof step, from, goal int) step {
	leads := func(class int) bool { return class == goal || p.above[class].has(goal) }
	for from != goal {
		next := p.Above[from][slices.IndexFunc(p.Above[from], leads)]
		proof = up{class: next, from: from, kid: proof}
		from = next
	}
	return proof
}

func samePred(a, b api.ClassPred) bool {
	return a.Class == b.Class && sameType(a.Type, b.Type)
}

func sameType(a, b api.KindType) bool {
	return a.Sort == b.Sort && a.N == b.N && slices.EqualFunc(a.Parts, b.Parts, sameType)
}
