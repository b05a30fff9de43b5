package formed

import (
	"iter"

	"swingle/api"
)

// nodes goes through a tree: a node before those below it, and these in order.
func nodes[T any](top T, below func(T) []T) iter.Seq[T] {
	return func(yield func(T) bool) {
		var visit func(node T) bool
		visit = func(node T) bool {
			if !yield(node) {
				return false
			}
			for _, next := range below(node) {
				if !visit(next) {
					return false
				}
			}
			return true
		}
		visit(top)
	}
}

func parts(t api.KindType) []api.KindType { return t.Parts }

func kids(t api.Term) []api.Term { return t.Kids }
