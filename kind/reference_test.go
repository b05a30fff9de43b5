package kind_test

import (
	"slices"

	"swingle/api"
)

// This file finds types in another way, as the definitions say it: equations
// between types that are trees, which are solved by putting in what a type
// variable must be, one after the other. There are type variables of any
// number; one that stands for itself is a data type that does not exist.

// standing is what stands for a type variable that stands for itself.
func standing(n int) api.KindType { return ofData(1000 + n) }

// replaced puts something in for each type variable.
func replaced(t api.KindType, of func(n int) api.KindType) api.KindType {
	if t.Sort == api.KindVar {
		return of(t.N)
	}
	return api.KindType{Sort: t.Sort, N: t.N, Parts: each(t.Parts, func(p api.KindType) api.KindType { return replaced(p, of) })}
}

func typeHas(t api.KindType, n int) bool {
	if t.Sort == api.KindVar {
		return t.N == n
	}
	return slices.ContainsFunc(t.Parts, func(p api.KindType) bool { return typeHas(p, n) })
}

func sameType(a, b api.KindType) bool {
	return a.Sort == b.Sort && a.N == b.N && slices.EqualFunc(a.Parts, b.Parts, sameType)
}

// equations are pairs of types that are to be the same, and what type variables are known to be.
type equations struct {
	open   [][2]api.KindType
	solved map[int]api.KindType
	next   int // the next new type variable
}

func newEquations(next int) *equations {
	return &equations{solved: map[int]api.KindType{}, next: next}
}

func (e *equations) fresh() api.KindType {
	e.next++
	return typeVar(e.next - 1)
}

func (e *equations) equal(a, b api.KindType) { e.open = append(e.open, [2]api.KindType{a, b}) }

// now returns a type with all that is known put in.
func (e *equations) now(t api.KindType) api.KindType {
	return replaced(t, func(n int) api.KindType {
		if known, ok := e.solved[n]; ok {
			return e.now(known)
		}
		return typeVar(n)
	})
}

// solve returns false if there is no solution.
func (e *equations) solve() bool {
	for len(e.open) > 0 {
		a, b := e.now(e.open[0][0]), e.now(e.open[0][1])
		e.open = e.open[1:]
		if b.Sort == api.KindVar && (a.Sort != api.KindVar || a.N < b.N) {
			a, b = b, a
		}
		switch {
		case sameType(a, b):
		case a.Sort == api.KindVar && typeHas(b, a.N):
			return false
		case a.Sort == api.KindVar:
			e.solved[a.N] = b
		case a.Sort != b.Sort || a.N != b.N:
			return false
		default:
			for i := range a.Parts {
				e.equal(a.Parts[i], b.Parts[i])
			}
		}
	}
	return true
}

// typist has what the types of expressions depend on.
type typist struct {
	*equations
	m     api.ReadModule
	of    func(fun int) api.KindType // a type of a function, at one place
	place int
	uses  []place
}

// place is a node where a function stands, with its type there.
type place struct {
	node, fun int
	kind      api.KindType
}

// instance renames all type variables to new ones.
func (e *equations) instance(t api.KindType) api.KindType {
	names := map[int]api.KindType{}
	return replaced(t, func(n int) api.KindType {
		if _, ok := names[n]; !ok {
			names[n] = e.fresh()
		}
		return names[n]
	})
}

// conOf returns the types of a constructor's arguments, and its own one, with new types in place of the parameters.
func (y *typist) conOf(n int) ([]api.KindType, api.KindType) {
	for data, d := range y.m.Datas {
		if n >= len(d.Cons) {
			n -= len(d.Cons)
			continue
		}
		var parts []api.KindType
		for range d.Params {
			parts = append(parts, y.fresh())
		}
		args := each(d.Cons[n], func(t api.KindType) api.KindType {
			return replaced(t, func(n int) api.KindType { return parts[n] })
		})
		return args, ofData(data, parts...)
	}
	panic("no constructor")
}

// term returns the type of an expression, by the table of the chapter; vars has the types of variables.
func (y *typist) term(t api.Term, vars map[int]api.KindType) api.KindType {
	here := y.place
	y.place++
	if t.Op == api.TermLet {
		is := y.term(t.Kids[0], vars)
		inside := map[int]api.KindType{}
		for n, x := range vars {
			inside[n] = x
		}
		inside[t.N] = is
		return y.term(t.Kids[1], inside)
	}
	if t.Op == api.TermVar {
		return vars[t.N]
	}
	var funAt int
	if t.Op == api.TermFun || t.Op == api.TermPart {
		funAt = len(y.uses)
		y.uses = append(y.uses, place{node: here, fun: t.N})
	}
	kids := each(t.Kids, func(k api.Term) api.KindType { return y.term(k, vars) })
	truth := ofData(0)
	switch t.Op {
	case api.TermInt:
		return integers()
	case api.TermCon:
		args, whole := y.conOf(t.N)
		for i := range kids {
			y.equal(kids[i], args[i])
		}
		return whole
	case api.TermFun, api.TermPart:
		kind, result := y.of(t.N), y.fresh()
		y.uses[funAt].kind = kind
		want := result
		for i := len(kids) - 1; i >= 0; i-- {
			want = arrow(kids[i], want)
		}
		y.equal(kind, want)
		return result
	case api.TermApply:
		result := y.fresh()
		y.equal(kids[0], arrow(kids[1], result))
		return result
	case api.TermOr:
		y.equal(kids[0], kids[1])
		return kids[0]
	case api.TermWhen:
		y.equal(kids[0], truth)
		return kids[1]
	case api.TermBoth:
		y.equal(kids[0], truth)
		y.equal(kids[1], truth)
		return truth
	case api.TermUnify, api.TermSame:
		y.equal(kids[0], kids[1])
		return truth
	}
	y.equal(kids[0], integers())
	y.equal(kids[1], integers())
	if t.Op == api.TermLess {
		return truth
	}
	return integers()
}

// allVars has a new type for each variable.
func (y *typist) allVars() map[int]api.KindType {
	vars := map[int]api.KindType{}
	for n := range api.TermVars {
		vars[n] = y.fresh()
	}
	return vars
}

// rule says that a rule fits, with this type of its function.
func (y *typist) rule(r api.RuleRule, kind api.KindType) {
	vars := y.allVars()
	want := y.term(r.Rhs, vars)
	for i := len(r.Pats) - 1; i >= 0; i-- {
		want = arrow(y.term(r.Pats[i], vars), want)
	}
	y.equal(kind, want)
}

// callsFun returns whether an expression has a function.
func callsFun(t api.Term, fun int) bool {
	if (t.Op == api.TermFun || t.Op == api.TermPart) && t.N == fun {
		return true
	}
	return slices.ContainsFunc(t.Kids, func(k api.Term) bool { return callsFun(k, fun) })
}

// reached returns the functions that a function calls.
func reached(p api.RuleProg, fun int, met []int) []int {
	for g := range p.Sig.Funs {
		for _, r := range p.Rules {
			if r.Fun == fun && callsFun(r.Rhs, g) && !slices.Contains(met, g) {
				met = reached(p, g, append(met, g))
			}
		}
	}
	return met
}

// refGroup returns the group of a function.
func refGroup(p api.RuleProg, fun int) []int {
	var group []int
	for g := range p.Sig.Funs {
		if g == fun || slices.Contains(reached(p, fun, nil), g) && slices.Contains(reached(p, g, nil), fun) {
			group = append(group, g)
		}
	}
	return group
}

// refGroups returns all groups, in order.
func refGroups(p api.RuleProg) [][]int {
	var made [][]int
	var done []int
	for len(done) < len(p.Sig.Funs) {
		for f := range p.Sig.Funs {
			group := refGroup(p, f)
			known := func(g int) bool { return slices.Contains(done, g) || slices.Contains(group, g) }
			notKnown := func(g int) bool { return !known(g) }
			if !slices.Contains(done, f) && !slices.ContainsFunc(reached(p, f, nil), notKnown) {
				made = append(made, group)
				done = append(done, group...)
				break
			}
		}
	}
	return made
}

// numbered renames the type variables of some types together, as they come first.
func numbered(list []api.KindType) ([]api.KindType, api.Errno) {
	names := map[int]int{}
	long := false
	made := each(list, func(t api.KindType) api.KindType {
		long = long || countNodes(t) > 20
		return replaced(t, func(n int) api.KindType {
			if _, ok := names[n]; !ok {
				names[n] = len(names)
			}
			return typeVar(names[n])
		})
	})
	if long || len(names) > 20 {
		return nil, api.ErrLong
	}
	return made, api.OK
}

// refTypes returns the principal types of all functions, and where there are none the group.
func refTypes(m api.ReadModule) ([]api.KindType, []int, api.Errno) {
	types := make([]api.KindType, len(m.Prog.Sig.Funs))
	for _, group := range refGroups(m.Prog) {
		e := newEquations(0)
		own := map[int]api.KindType{}
		for _, f := range group {
			own[f] = e.fresh()
			args := e.fresh()
			for range m.Prog.Sig.Funs[f].Args {
				args = arrow(e.fresh(), args)
			}
			e.equal(own[f], args)
		}
		y := &typist{equations: e, m: m, of: func(f int) api.KindType {
			if t, ok := own[f]; ok {
				return t
			}
			return e.instance(types[f])
		}}
		for _, r := range m.Prog.Rules {
			if slices.Contains(group, r.Fun) {
				y.rule(r, own[r.Fun])
			}
		}
		if !e.solve() {
			return nil, group, api.ErrRule
		}
		made, err := numbered(each(group, func(f int) api.KindType { return e.now(own[f]) }))
		if err != api.OK {
			return nil, group, err
		}
		for i, f := range group {
			types[f] = made[i]
		}
	}
	return types, nil, api.OK
}

// freeOf returns the free variables of an expression, increasing.
func freeOf(t api.Term) []int {
	var list []int
	if t.Op == api.TermVar {
		list = append(list, t.N)
	}
	for i, k := range t.Kids {
		for _, n := range freeOf(k) {
			if t.Op != api.TermLet || i == 0 || n != t.N {
				list = append(list, n)
			}
		}
	}
	slices.Sort(list)
	return slices.Compact(list)
}

// refInfer returns the type of an expression, those of its free variables, and the uses, with their own error.
func refInfer(m api.ReadModule, t api.Term) (whole api.KindType, free []api.KindType, uses []api.KindUse, e, usesError api.Errno) {
	types, _, e := refTypes(m)
	if e != api.OK {
		return whole, nil, nil, e, e
	}
	q := newEquations(0)
	y := &typist{equations: q, m: m, of: func(f int) api.KindType { return q.instance(types[f]) }}
	vars := y.allVars()
	list := []api.KindType{y.term(t, vars)}
	if !q.solve() {
		return whole, nil, nil, api.ErrRule, api.ErrRule
	}
	for _, n := range freeOf(t) {
		list = append(list, vars[n])
	}
	first := len(list)
	for _, u := range y.uses {
		for n := range 20 {
			if slices.ContainsFunc(allFrom(n), func(k int) bool { return typeHas(types[u.fun], k) }) {
				list = append(list, standsFor(q, types[u.fun], u.kind, n))
			}
		}
	}
	list = each(list, q.now)
	made, e := numbered(list[:first])
	if e != api.OK {
		return whole, nil, nil, e, e
	}
	all, usesError := numbered(list)
	if usesError != api.OK {
		return made[0], made[1:], nil, api.OK, usesError
	}
	at := first
	for _, u := range y.uses {
		use := api.KindUse{Node: u.node, Fun: u.fun}
		for n := range 20 {
			if slices.ContainsFunc(allFrom(n), func(k int) bool { return typeHas(types[u.fun], k) }) {
				use.Types = append(use.Types, all[at])
				at++
			}
		}
		uses = append(uses, use)
	}
	return made[0], made[1:], uses, api.OK, api.OK
}

func allFrom(n int) []int {
	var list []int
	for ; n < 20; n++ {
		list = append(list, n)
	}
	return list
}

// standsFor returns what stands in an instance of a type where the type has a type variable, or a new type.
func standsFor(e *equations, t, instance api.KindType, n int) api.KindType {
	if t.Sort == api.KindVar && t.N == n {
		return instance
	}
	for i, p := range t.Parts {
		if typeHas(p, n) {
			return standsFor(e, p, instance.Parts[i], n)
		}
	}
	return e.fresh()
}

// refFits returns whether a rule fits types that are proposed for all functions.
func refFits(m api.ReadModule, types []api.KindType, r api.RuleRule) bool {
	group := refGroup(m.Prog, r.Fun)
	e := newEquations(0)
	y := &typist{equations: e, m: m, of: func(f int) api.KindType {
		if slices.Contains(group, f) {
			return replaced(types[f], standing)
		}
		return e.instance(types[f])
	}}
	y.rule(r, replaced(types[r.Fun], standing))
	return e.solve()
}

// refAccept returns the first rule that does not fit, or -1.
func refAccept(m api.ReadModule, types []api.KindType) int {
	return slices.IndexFunc(m.Prog.Rules, func(r api.RuleRule) bool { return !refFits(m, types, r) })
}
