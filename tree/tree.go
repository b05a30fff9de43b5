// Package tree goes through expressions and types, and through all else that
// has parts. Several packages do; it calls nothing but api.
package tree

import (
	"iter"

	"swingle/api"
)

// Nodes goes through a tree: a node before those below it, and these in order.
func Nodes[T any](top T, below func(T) []T) iter.Seq[T] {
	return func(yield func(T) bool) {
		for _, node := range Levels(top, below) {
			if !yield(node) {
				return
			}
		}
	}
}

// Levels goes through a tree as Nodes does, with the depth of each node, which
// is 1 at the top.
func Levels[T any](top T, below func(T) []T) iter.Seq2[int, T] {
	return func(yield func(int, T) bool) {
		var visit func(depth int, node T) bool
		visit = func(depth int, node T) bool {
			if !yield(depth, node) {
				return false
			}
			for _, next := range below(node) {
				if !visit(depth+1, next) {
					return false
				}
			}
			return true
		}
		visit(1, top)
	}
}

// Parts returns what is below a type.
func Parts(t api.KindType) []api.KindType { return t.Parts }

// Kids returns what is below an expression.
func Kids(t api.Term) []api.Term { return t.Kids }
