package term

import (
	"cmp"
	"iter"
	"slices"

	"swingle/api"
	"swingle/tree"
)

// nodes goes through an expression, with the depth of each node below the
// top (1): a node before its Kids, and these in order.
func nodes(t api.Term) iter.Seq2[int, api.Term] { return tree.Levels(t, tree.Kids) }

// rebuild returns a node with what is made of its Kids, in order.
func rebuild(t api.Term, of func(api.Term) api.Term) api.Term {
	made := api.Term{Op: t.Op, N: t.N}
	for _, k := range t.Kids {
		made.Kids = append(made.Kids, of(k))
	}
	return made
}

func varTerm(n int) api.Term {
	return api.Term{Op: api.TermVar, N: n}
}

func same(a, b api.Term) bool {
	return a.Op == b.Op && a.N == b.N && slices.EqualFunc(a.Kids, b.Kids, same)
}

func size(t api.Term) int {
	count := 0
	for range nodes(t) {
		count++
	}
	return count
}

// The ranks by which values are ordered, and how many there are.
const (
	bySize = iota
	byOp
	byN
	byKids
	ranks
)

// compare needs no look at the numbers of Kids: of two values of one size no
// list of Kids is the beginning of the other one's.
func compare(a, b api.Term) int {
	order := 0
comparison:
	for rank := range ranks {
		switch rank {
		case bySize:
			order = cmp.Compare(size(a), size(b))
		case byOp:
			order = cmp.Compare(a.Op, b.Op)
		case byN:
			order = cmp.Compare(a.N, b.N)
		case byKids:
			for i := range min(len(a.Kids), len(b.Kids)) {
				order = compare(a.Kids[i], b.Kids[i])
				if order != 0 {
					break comparison
				}
			}
		}
		if order != 0 {
			break comparison
		}
	}
	return order
}
