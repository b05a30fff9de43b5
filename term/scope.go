package term

import (
	"maps"

	"swingle/api"
	"swingle/fresh"
)

// varSet says of each variable whether it is in a set.
type varSet [api.TermVars]bool

func (s varSet) list() []int {
	var vars []int
	for v := range api.TermVars {
		if s[v] {
			vars = append(vars, v)
		}
	}
	return vars
}

func (s varSet) with(more varSet) varSet {
	for v := range api.TermVars {
		s[v] = s[v] || more[v]
	}
	return s
}

func freeVars(t api.Term) varSet {
	var free varSet
	if t.Op == api.TermVar {
		free[t.N] = true
	}
	for i, k := range t.Kids {
		inside := freeVars(k)
		if t.Op == api.TermLet && i == 1 {
			inside[t.N] = false
		}
		free = free.with(inside)
	}
	return free
}

// standing returns the variables that stand anywhere in an expression, as a TermVar or bound.
func standing(t api.Term) varSet {
	var found varSet
	for _, n := range nodes(t) {
		if n.Op == api.TermVar || n.Op == api.TermLet {
			found[n.N] = true
		}
	}
	return found
}

// rename puts a variable that stands nowhere in an expression in place of a free one.
func rename(t api.Term, from, to int) api.Term {
	inside := func(k api.Term) api.Term { return rename(k, from, to) }
	switch {
	case t.Op == api.TermVar && t.N == from:
		return varTerm(to)
	case t.Op == api.TermLet && t.N == from:
		return api.Term{Op: t.Op, N: t.N, Kids: []api.Term{inside(t.Kids[0]), fresh.Term(t.Kids[1])}}
	}
	return rebuild(t, inside)
}

// giveUp is what a search, or a construction, panics with where it can't go on.
type giveUp struct {
	why api.Errno
}

// leastOutside gives up if all variables are in a set: the least one outside would be no variable that is formed.
func leastOutside(set varSet) int {
	for v := range api.TermVars {
		if !set[v] {
			return v
		}
	}
	panic(giveUp{api.ErrLong})
}

// listScope is the scope around an expression into which a binding list is
// put: the bindings, and all variables that stand in the list.
type listScope struct {
	binds  map[int]api.Term
	stands varSet
}

// putScope is a place of the expression; no bindings of what TermLets bind there are put in.
type putScope struct {
	listScope
	bound varSet
}

// putList returns an expression with a binding list put in; it may be too large.
func putList(t api.Term, l []api.TermBind) (made api.Term, e api.Errno) {
	defer func() {
		if gave, ok := recover().(giveUp); ok {
			made, e = api.Term{}, gave.why
		}
	}()
	around := listScope{binds: map[int]api.Term{}}
	for _, b := range l {
		around.binds[b.Var] = b.Term
		around.stands = around.stands.with(standing(b.Term))
		around.stands[b.Var] = true
	}
	return putScope{listScope: around}.put(t), api.OK
}

func (s putScope) inside(let int) putScope {
	s.bound[let] = true
	return s
}

func (s putScope) find(v int) (api.Term, bool) {
	put, ok := s.binds[v]
	return put, ok && !s.bound[v]
}

func (s putScope) put(t api.Term) api.Term {
	switch t.Op {
	case api.TermVar:
		if put, ok := s.find(t.N); ok {
			return fresh.Term(put)
		}
	case api.TermLet:
		return s.putLet(t)
	}
	return rebuild(t, s.put)
}

// putLet chooses the TermLet's variable anew, where it would catch one, before anything is put in.
func (s putScope) putLet(t api.Term) api.Term {
	own, body := t.N, t.Kids[1]
	if s.inside(own).catches(own, body) {
		own = leastOutside(standing(t).with(s.stands))
		body = rename(body, t.N, own)
	}
	first := s.put(t.Kids[0])
	second := s.inside(own).put(body)
	return api.Term{Op: api.TermLet, N: own, Kids: []api.Term{first, second}}
}

// catches returns whether a variable is free in a Term that is put into a body.
func (s putScope) catches(own int, body api.Term) bool {
	for _, v := range freeVars(body).list() {
		if put, ok := s.find(v); ok && freeVars(put)[own] {
			return true
		}
	}
	return false
}

// freeScope is the scope around an expression that is put in order: the
// numbers of its free variables, as far as they came, and of how many
// variables there are numbers.
type freeScope struct {
	free  map[int]int
	count int
}

// orderScope is a place of the expression, with the numbers of the variables that TermLets bind there.
type orderScope struct {
	*freeScope
	bound map[int]int
}

// inOrder returns an expression in order, and how many variables it has.
func inOrder(t api.Term) (api.Term, int) {
	around := &freeScope{free: map[int]int{}}
	made := orderScope{around, map[int]int{}}.order(t)
	return made, around.count
}

func (s orderScope) order(t api.Term) api.Term {
	switch t.Op {
	case api.TermVar:
		return varTerm(s.number(t.N))
	case api.TermLet:
		own := s.next()
		first := s.order(t.Kids[0])
		second := s.inside(t.N, own).order(t.Kids[1])
		return api.Term{Op: api.TermLet, N: own, Kids: []api.Term{first, second}}
	}
	return rebuild(t, s.order)
}

func (s orderScope) number(v int) int {
	if n, ok := s.bound[v]; ok {
		return n
	}
	if n, ok := s.free[v]; ok {
		return n
	}
	n := s.next()
	s.free[v] = n
	return n
}

func (s orderScope) next() int {
	s.count++
	return s.count - 1
}

func (s orderScope) inside(let, number int) orderScope {
	bound := maps.Clone(s.bound)
	bound[let] = number
	return orderScope{s.freeScope, bound}
}
