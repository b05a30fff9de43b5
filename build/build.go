// Package build has short names for making expressions and types. It calls
// nothing but api; tests of many layers use it.
package build

import "swingle/api"

// Node is a node of an expression.
func Node(op api.TermOp, n int, kids ...api.Term) api.Term {
	return api.Term{Op: op, N: n, Kids: kids}
}

// Var is a variable.
func Var(n int) api.Term { return Node(api.TermVar, n) }

// Num is an integer.
func Num(n int) api.Term { return Node(api.TermInt, n) }

// Con is a constructor with its arguments.
func Con(n int, kids ...api.Term) api.Term { return Node(api.TermCon, n, kids...) }

// Fun is a call of a function.
func Fun(n int, kids ...api.Term) api.Term { return Node(api.TermFun, n, kids...) }

// Part is a function with fewer arguments than it has.
func Part(n int, kids ...api.Term) api.Term { return Node(api.TermPart, n, kids...) }

// Let is a variable, what it is, and the body.
func Let(n int, a, b api.Term) api.Term { return Node(api.TermLet, n, a, b) }

// Or is one expression or another one.
func Or(a, b api.Term) api.Term { return Node(api.TermOr, 0, a, b) }

// Tower is so many constructors with one argument around an expression.
func Tower(high, con int, inside api.Term) api.Term {
	for range high {
		inside = Con(con, inside)
	}
	return inside
}

// Terms is a list of expressions.
func Terms(list ...api.Term) []api.Term { return list }

// TypeVar is a type variable.
func TypeVar(n int) api.KindType { return api.KindType{Sort: api.KindVar, N: n} }

// Integers is the type of integers.
func Integers() api.KindType { return api.KindType{Sort: api.KindInt} }

// Arrow is the type of functions from one type to another one.
func Arrow(a, b api.KindType) api.KindType {
	return api.KindType{Sort: api.KindFun, Parts: []api.KindType{a, b}}
}

// OfData is a data type with types for its parameters.
func OfData(n int, parts ...api.KindType) api.KindType {
	return api.KindType{Sort: api.KindOfData, N: n, Parts: parts}
}
