package term

import (
	"slices"

	"swingle/api"
	"swingle/fresh"
)

// matcher has what stands for each variable that was met.
type matcher map[int]api.Term

func (m matcher) match(p, v api.Term) bool {
	if p.Op != api.TermVar {
		return p.Op == v.Op && p.N == v.N && slices.EqualFunc(p.Kids, v.Kids, m.match)
	}
	if old, ok := m[p.N]; ok {
		return same(old, v)
	}
	m[p.N] = v
	return true
}

func (m matcher) list() []api.TermBind {
	var l []api.TermBind
	for v := range api.TermVars {
		if t, ok := m[v]; ok {
			l = append(l, api.TermBind{Var: v, Term: fresh.Term(t)})
		}
	}
	return l
}

// operand is what a value stands for, with all that is bound so far.
type operand interface {
	term() api.Term
}

// unknown is a variable that is not bound.
type unknown struct {
	n int
}

// known is a value that is no variable.
type known struct {
	value api.Term
}

func (u unknown) term() api.Term { return varTerm(u.n) }

func (k known) term() api.Term { return k.value }

// unifier has the variables that are bound. What they are bound to may have
// variables that are bound, too, but none that leads back to itself.
type unifier map[int]api.Term

// mostGeneral finds out first whether there is a unifier at all, and then
// whether its Terms are formed: ErrNone comes before ErrLong.
func mostGeneral(a, b api.Term) (l []api.TermBind, e api.Errno) {
	defer func() {
		if gave, ok := recover().(giveUp); ok {
			l, e = nil, gave.why
		}
	}()
	u := unifier{}
	u.unify(a, b)
	for v := range api.TermVars {
		if _, ok := u[v]; ok {
			l = append(l, api.TermBind{Var: v, Term: u.full(varTerm(v))})
		}
	}
	return l, api.OK
}

func (u unifier) unify(a, b api.Term) {
	other := u.operand(b)
	switch x := u.operand(a).(type) {
	case unknown:
		u.bind(x, other)
	case known:
		switch y := other.(type) {
		case unknown:
			u.bind(y, x)
		case known:
			u.unifyKids(x.value, y.value)
		}
	}
}

func (u unifier) operand(t api.Term) operand {
	for t.Op == api.TermVar {
		bound, ok := u[t.N]
		if !ok {
			return unknown{t.N}
		}
		t = bound
	}
	return known{t}
}

// bind binds the greater one of two variables, so that of all that are made equal the least one stays.
func (u unifier) bind(x unknown, o operand) {
	switch y := o.(type) {
	case unknown:
		if x.n != y.n {
			u[max(x.n, y.n)] = varTerm(min(x.n, y.n))
		}
	case known:
		if u.stands(x.n, y.value) {
			panic(giveUp{api.ErrNone})
		}
		u[x.n] = y.term()
	}
}

func (u unifier) unifyKids(a, b api.Term) {
	if a.Op != b.Op || a.N != b.N || len(a.Kids) != len(b.Kids) {
		panic(giveUp{api.ErrNone})
	}
	for i := range a.Kids {
		u.unify(a.Kids[i], b.Kids[i])
	}
}

// stands returns whether a variable stands in a value, or in what its
// variables are bound to, and so on. Each variable is followed once: with all
// bindings put in, the value can be very large.
func (u unifier) stands(v int, t api.Term) bool {
	var met varSet
	var look func(api.Term) bool
	look = func(t api.Term) bool {
		for _, n := range nodes(t) {
			if n.Op != api.TermVar || met[n.N] {
				continue
			}
			met[n.N] = true
			if bound, ok := u[n.N]; n.N == v || ok && look(bound) {
				return true
			}
		}
		return false
	}
	return look(t)
}

// full returns a value with all bindings put in, and gives up as soon as it is not formed.
func (u unifier) full(t api.Term) api.Term {
	count := 0
	var grow func(depth int, t api.Term) api.Term
	grow = func(depth int, t api.Term) api.Term {
		count++
		if count > api.TermNodes || depth > api.TermDepth {
			panic(giveUp{api.ErrLong})
		}
		below := func(k api.Term) api.Term { return grow(depth+1, k) }
		return rebuild(u.operand(t).term(), below)
	}
	return grow(1, t)
}
