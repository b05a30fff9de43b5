// Package term is layer 1: see shared/doc/01-term.md.
//
// Signatures and expressions are handed in as plain data. Every exported
// function first checks that they are formed; all that is not exported relies
// on it: a formed expression is a small tree, without cycles.
package term

import "swingle/api"

// CheckSig returns ErrArg for a signature that is not formed.
func CheckSig(s api.TermSig) api.Errno {
	if !sigFormed(s) {
		return api.ErrArg
	}
	return api.OK
}

// Check returns ErrArg for an expression that is not formed.
func Check(s api.TermSig, t api.Term) api.Errno {
	return checkAll(s, t)
}

// IsValue returns whether an expression is a value, and whether it is a ground one.
func IsValue(s api.TermSig, t api.Term) (bool, bool, api.Errno) {
	if e := Check(s, t); e != api.OK {
		return false, false, e
	}
	if !isValue(t) {
		return false, false, api.OK
	}
	return true, isGround(t), api.OK
}

// IsPattern returns whether an expression is a pattern.
func IsPattern(s api.TermSig, t api.Term) (bool, api.Errno) {
	if e := Check(s, t); e != api.OK {
		return false, e
	}
	return isPattern(t), api.OK
}

// Vars returns the free variables of an expression, increasing.
func Vars(s api.TermSig, t api.Term) ([]int, api.Errno) {
	if e := Check(s, t); e != api.OK {
		return nil, e
	}
	return freeVars(t).list(), api.OK
}

// Subst returns an expression with a binding list put in.
func Subst(s api.TermSig, t api.Term, l []api.TermBind) (api.Term, api.Errno) {
	if e := Check(s, t); e != api.OK {
		return api.Term{}, e
	}
	if !listFormed(s, l) {
		return api.Term{}, api.ErrArg
	}
	made, e := putList(t, l)
	if e != api.OK {
		return api.Term{}, e
	}
	if !formed(s, made) {
		return api.Term{}, api.ErrLong
	}
	return made, api.OK
}

// Order returns an expression in order.
func Order(s api.TermSig, t api.Term) (api.Term, api.Errno) {
	if e := Check(s, t); e != api.OK {
		return api.Term{}, e
	}
	made, vars := inOrder(t)
	if vars > api.TermVars {
		return api.Term{}, api.ErrLong
	}
	return made, api.OK
}

// Variant returns whether two expressions are variants, also where there are
// too many variables for Order.
func Variant(s api.TermSig, a, b api.Term) (bool, api.Errno) {
	if e := checkAll(s, a, b); e != api.OK {
		return false, e
	}
	x, _ := inOrder(a)
	y, _ := inOrder(b)
	return same(x, y), api.OK
}

// Match returns the match of the value p to the value v.
func Match(s api.TermSig, p, v api.Term) ([]api.TermBind, api.Errno) {
	if e := checkValues(s, p, v); e != api.OK {
		return nil, e
	}
	m := matcher{}
	if !m.match(p, v) {
		return nil, api.ErrNone
	}
	return m.list(), api.OK
}

// Unify returns the most general unifier of two values.
func Unify(s api.TermSig, a, b api.Term) ([]api.TermBind, api.Errno) {
	if e := checkValues(s, a, b); e != api.OK {
		return nil, e
	}
	return mostGeneral(a, b)
}

// Compare returns -1, 0 or 1, as the value a comes before b, is equal to it, or comes behind it.
func Compare(s api.TermSig, a, b api.Term) (int, api.Errno) {
	if e := checkValues(s, a, b); e != api.OK {
		return 0, e
	}
	return compare(a, b), api.OK
}
