package kind_test

import (
	"math/rand"
	"slices"
	"testing"

	"swingle/api"
	"swingle/kind"
	"swingle/term"
)

// maker makes modules with the data types of more, and expressions for them.
// Most have types: functions are given some first, and expressions are made
// for a type that they are to have.
type maker struct {
	*rand.Rand
	api.ReadModule
	given []api.KindType // the types that functions are given
	self  int            // the function whose rule is made
	vars  map[int]api.KindType
}

func newMaker(t *testing.T, r *rand.Rand) *maker {
	t.Helper()
	return &maker{Rand: r, ReadModule: mustModule(t, more)}
}

// kind returns a type of at most so much depth, with type variables less than
// vars. Most of them are simple, so that many expressions have the same ones.
func (k *maker) kind(deep, vars int) api.KindType {
	sub := func() api.KindType { return k.kind(deep-1, vars) }
	switch pick := k.Intn(20); {
	case pick < 6 && vars > 0:
		return typeVar(k.Intn(vars))
	case pick < 9 || deep <= 1:
		return integers()
	case pick < 14:
		return []api.KindType{ofData(0), ofData(3), ofData(1, integers())}[k.Intn(3)]
	case pick < 16:
		return ofData(1, sub())
	case pick == 16:
		return arrow(sub(), sub())
	}
	n := 1 + k.Intn(len(k.Datas)-1)
	made := ofData(n)
	for range k.Datas[n].Params {
		made.Parts = append(made.Parts, sub())
	}
	return made
}

// randomModule returns one that is formed; not all of them have types.
func randomModule(t *testing.T, r *rand.Rand) api.ReadModule {
	t.Helper()
	for {
		k := newMaker(t, r)
		for f := range r.Intn(6) {
			args := r.Intn(4)
			made := k.kind(2, 2)
			for range args {
				made = arrow(k.kind(2, 2), made)
			}
			k.given = append(k.given, made)
			k.Prog.Sig.Funs = append(k.Prog.Sig.Funs, api.TermName{Name: string([]byte{byte('f' + f)}), Args: args})
		}
		for range r.Intn(10) {
			if len(k.given) > 0 {
				k.rule(r.Intn(len(k.given)))
			}
		}
		if kind.CheckModule(k.ReadModule) == api.OK {
			return k.ReadModule
		}
	}
}

// rule adds one to a function.
func (k *maker) rule(fun int) {
	k.self, k.vars = fun, map[int]api.KindType{}
	r := api.RuleRule{Fun: fun, Vars: api.TermVars}
	result := k.given[fun]
	for range k.Prog.Sig.Funs[fun].Args {
		r.Pats = append(r.Pats, k.pattern(result.Parts[0], 1+k.Intn(3)))
		result = result.Parts[1]
	}
	r.Rhs = apart(k.term(result, 1+k.Intn(6)), map[int]int{}, &[]int{10}[0])
	if k.Intn(12) == 0 {
		r.Rhs = k.broken(r.Rhs)
	}
	k.Prog.Rules = append(k.Prog.Rules, r)
}

// apart gives each TermLet a variable of its own, from next on.
func apart(t api.Term, names map[int]int, next *int) api.Term {
	if t.Op == api.TermVar {
		if n, ok := names[t.N]; ok {
			return v(n)
		}
		return t
	}
	if t.Op != api.TermLet {
		return node(t.Op, t.N, each(t.Kids, func(k api.Term) api.Term { return apart(k, names, next) })...)
	}
	own := *next
	*next++
	inside := map[int]int{t.N: own}
	for n, to := range names {
		if n != t.N {
			inside[n] = to
		}
	}
	is := apart(t.Kids[0], names, next)
	return let(own, is, apart(t.Kids[1], inside, next))
}

// broken puts another operation, or another term, somewhere.
func (k *maker) broken(t api.Term) api.Term {
	if len(t.Kids) == 0 || k.Intn(3) == 0 {
		return k.term(k.kind(2, 0), 2)
	}
	made := node(t.Op, t.N, t.Kids...)
	made.Kids = slices.Clone(t.Kids)
	at := k.Intn(len(t.Kids))
	made.Kids[at] = k.broken(t.Kids[at])
	return made
}

// variable returns a new one, with a type, or any one if there are ten.
func (k *maker) variable(want api.KindType) api.Term {
	n := len(k.vars)
	if n >= 10 {
		return v(k.Intn(10))
	}
	k.vars[n] = want
	return v(n)
}

func (k *maker) pattern(want api.KindType, deep int) api.Term {
	if want.Sort != api.KindOfData || deep <= 1 || k.Intn(3) == 0 {
		return k.variable(want)
	}
	n, args := k.someCon(want)
	return con(n, each(args, func(t api.KindType) api.Term { return k.pattern(t, deep-1) })...)
}

// someCon returns a constructor of a data type, and the types of its arguments.
func (k *maker) someCon(of api.KindType) (int, []api.KindType) {
	first := 0
	for _, d := range k.Datas[:of.N] {
		first += len(d.Cons)
	}
	n := k.Intn(len(k.Datas[of.N].Cons))
	args := each(k.Datas[of.N].Cons[n], func(t api.KindType) api.KindType {
		return replaced(t, func(n int) api.KindType { return of.Parts[n] })
	})
	return first + n, args
}

// term returns an expression that has a type, if all functions have those that they are given.
func (k *maker) term(want api.KindType, deep int) api.Term {
	sub := func(t api.KindType) api.Term { return k.term(t, deep-1) }
	two := func(op api.TermOp, a, b api.KindType) api.Term { return node(op, 0, sub(a), sub(b)) }
	if pick := k.Intn(12); deep > 1 {
		switch {
		case pick < 3 || pick > 9:
			if made, ok := k.call(want, deep); ok {
				return made
			}
		case pick == 3:
			return two(api.TermOr, want, want)
		case pick == 4:
			return two(api.TermWhen, ofData(0), want)
		case pick == 5:
			other := k.kind(2, 2)
			return two(api.TermApply, arrow(other, want), other)
		case pick == 6:
			other := k.kind(2, 2)
			is := sub(other)
			own := k.variable(other)
			return let(own.N, is, sub(want))
		case want.Sort == api.KindInt:
			return two([]api.TermOp{api.TermAdd, api.TermSub}[k.Intn(2)], want, want)
		case want.Sort == api.KindOfData && want.N == 0 && pick < 9:
			other := k.kind(2, 2)
			return two([]api.TermOp{api.TermUnify, api.TermSame}[k.Intn(2)], other, other)
		case want.Sort == api.KindOfData && want.N == 0:
			op := []api.TermOp{api.TermBoth, api.TermLess}[k.Intn(2)]
			other := map[api.TermOp]api.KindType{api.TermBoth: ofData(0), api.TermLess: integers()}[op]
			return two(op, other, other)
		case want.Sort == api.KindOfData:
			n, args := k.someCon(want)
			return con(n, each(args, sub)...)
		}
	}
	return k.leaf(want)
}

func (k *maker) leaf(want api.KindType) api.Term {
	var list []api.Term
	for n := range len(k.vars) {
		if sameType(k.vars[n], want) {
			list = append(list, v(n), v(n))
		}
	}
	if want.Sort == api.KindInt {
		list = append(list, num(k.Intn(9)))
	}
	if want.Sort == api.KindOfData {
		if n, args := k.someCon(want); len(args) == 0 {
			list = append(list, con(n))
		}
	}
	if made, ok := k.call(want, 0); ok && k.Intn(3) == 0 {
		list = append(list, made)
	}
	if len(list) == 0 || k.Intn(8) == 0 {
		return k.variable(want)
	}
	return list[k.Intn(len(list))]
}

// call returns a call of a type; without depth one of no arguments.
func (k *maker) call(want api.KindType, deep int) (api.Term, bool) {
	for _, fun := range k.Perm(len(k.given)) {
		most := k.Prog.Sig.Funs[fun].Args
		args := most - k.Intn(most+1)*k.Intn(2)
		if deep <= 1 {
			args = 0
		}
		if made, ok := k.callOf(fun, args, want, deep); ok {
			return made, true
		}
	}
	return api.Term{}, false
}

// callOf returns a call of a function with so many arguments, if it can have a
// type. Functions before that whose rule is made can have any instance of their types.
func (k *maker) callOf(fun, args int, want api.KindType, deep int) (api.Term, bool) {
	any := fun < k.self || k.Intn(10) == 0
	result := k.given[fun]
	for range args {
		result = result.Parts[1]
	}
	e := newEquations(2000)
	away := func(n int) api.KindType { return typeVar(n + 100) }
	put := func(t api.KindType) api.KindType { return t }
	if any {
		e.equal(replaced(result, away), replaced(want, standing))
		put = func(t api.KindType) api.KindType {
			return back(replaced(e.now(replaced(t, away)), func(int) api.KindType { return integers() }))
		}
	}
	if !any && !sameType(result, want) || any && !e.solve() {
		return api.Term{}, false
	}
	made := node(api.TermFun, fun)
	if args < k.Prog.Sig.Funs[fun].Args {
		made.Op = api.TermPart
	}
	for at := k.given[fun]; args > 0; args-- {
		made.Kids = append(made.Kids, k.term(put(at.Parts[0]), deep-1))
		at = at.Parts[1]
	}
	return made, true
}

// back puts type variables for what stands for them.
func back(t api.KindType) api.KindType {
	if t.Sort == api.KindOfData && t.N >= 1000 {
		return typeVar(t.N - 1000)
	}
	return api.KindType{Sort: t.Sort, N: t.N, Parts: each(t.Parts, back)}
}

// randomTerm returns an expression that is formed; most of them have types.
func randomTerm(t *testing.T, r *rand.Rand, m api.ReadModule) api.Term {
	t.Helper()
	types, e := kind.Types(m)
	if e != api.OK {
		types = each(m.Prog.Sig.Funs, func(f api.TermName) api.KindType { return chain(0, f.Args) })
	}
	for {
		k := &maker{Rand: r, ReadModule: m, given: types, self: 100, vars: map[int]api.KindType{}}
		made := k.term(k.kind(3, 3), 1+r.Intn(6))
		switch r.Intn(8) {
		case 0:
			made = k.broken(made)
		case 1: // the same variables free and bound, and some bound more than once
			made = folded(made, 1+r.Intn(4))
		}
		if term.Check(m.Prog.Sig, made) == api.OK {
			return made
		}
	}
}

// folded numbers variables modulo a number.
func folded(t api.Term, by int) api.Term {
	made := node(t.Op, t.N, each(t.Kids, func(k api.Term) api.Term { return folded(k, by) })...)
	if t.Op == api.TermVar || t.Op == api.TermLet {
		made.N %= by
	}
	return made
}
