// Package tree goes through expressions and types, and through all else that
// has parts. Several packages do; it calls nothing but api.
package tree

import (
	"iter"

	"swingle/api"
)

// Nodes goes through a tree: a node before those below it, and these in order.
func Nodes[T any](top T, below func(T) []T) iter.Seq[T] {
	return func(yield func(T) bool) {
		var visit func(node T) bool
		visit = func(node T) bool {
			if !yield(node) {
				return false
			}
			for _, next := range below(node) {
				if !visit(next) {
					return false
				}
			}
			return true
		}
		visit(top)
	}
}

// Parts returns what is below a type.
func Parts(t api.KindType) []api.KindType { return t.Parts }

// Kids returns what is below an expression.
func Kids(t api.Term) []api.Term { return t.Kids }
