package read

import (
	"maps"
	"strconv"
	"strings"

	"swingle/api"
)

// index has the numbers of some names.
type index map[string]int

func newIndex(names ...string) index {
	x := index{}
	for _, name := range names {
		x.add(name)
	}
	return x
}

// add gives a name the next number; it gives up if the name has one.
func (x index) add(name string) {
	if x.has(name) {
		panic(giveUp{api.ErrRule})
	}
	x[name] = len(x)
}

func (x index) has(name string) bool {
	_, ok := x[name]
	return ok
}

// number gives up if there is no such name.
func (x index) number(name string) int {
	if !x.has(name) {
		panic(giveUp{api.ErrRule})
	}
	return x[name]
}

// typeScope has the names in a type: of data types, with how many parameters
// they have, and of type variables. Names that are not known are new type
// variables, if it is open.
type typeScope struct {
	datas  index
	params []int
	vars   index
	open   bool
}

func (s typeScope) kind(t typePhrase) api.KindType {
	made := api.KindType{Sort: t.sort}
	switch {
	case t.sort == api.KindVar && t.name == "int":
		made.Sort = api.KindInt
	case t.sort == api.KindVar:
		made.N = s.variable(t.name)
	case t.sort == api.KindOfData:
		made.N = s.datas.number(t.name)
		if len(t.parts) != s.params[made.N] {
			panic(giveUp{api.ErrRule})
		}
	}
	for _, part := range t.parts {
		made.Parts = append(made.Parts, s.kind(part))
	}
	return made
}

func (s typeScope) variable(name string) int {
	if s.open && !s.vars.has(name) {
		s.vars.add(name)
	}
	return s.vars.number(name)
}

// scope has the names of a program.
type scope struct {
	api.TermSig
	cons, funs index
}

func newScope(s api.TermSig) scope {
	made := scope{s, index{}, index{}}
	for _, c := range s.Cons {
		made.cons.add(c.Name)
	}
	for _, f := range s.Funs {
		made.funs.add(f.Name)
	}
	return made
}

// ruleScope is the scope of a rule, or of a goal: the names of all variables,
// by their numbers, and the numbers of those that no let binds.
type ruleScope struct {
	scope
	vars  []string
	known index
}

// letScope is the scope of a place there, with the numbers of the variables that lets bind there.
type letScope struct {
	*ruleScope
	bound index
}

func (s scope) rule() letScope {
	return letScope{&ruleScope{scope: s, known: index{}}, index{}}
}

func (s letScope) inside(let string, number int) letScope {
	bound := maps.Clone(s.bound)
	bound[let] = number
	return letScope{s.ruleScope, bound}
}

// variable returns the number of a new variable; the name of a function is none.
func (s *ruleScope) variable(name string) int {
	if s.funs.has(name) {
		panic(giveUp{api.ErrRule})
	}
	s.vars = append(s.vars, name)
	return len(s.vars) - 1
}

func (s letScope) number(name string) int {
	if n, ok := s.bound[name]; ok {
		return n
	}
	if !s.known.has(name) {
		s.known[name] = s.variable(name)
	}
	return s.known[name]
}

func (s letScope) pattern(p phrase) api.Term {
	if p.op == api.TermCon {
		return s.constructor(p, s.pattern)
	}
	if s.known.has(p.text) {
		panic(giveUp{api.ErrRule})
	}
	return api.Term{Op: api.TermVar, N: s.number(p.text)}
}

func (s letScope) term(p phrase) api.Term {
	switch p.op {
	case api.TermInt:
		return api.Term{Op: api.TermInt, N: integerOf(p.text)}
	case api.TermVar:
		return s.named(p)
	case api.TermCon:
		return s.constructor(p, s.term)
	case api.TermLet:
		return s.let(p)
	}
	return api.Term{Op: p.op, Kids: each(p.kids, s.term)}
}

func (s letScope) constructor(p phrase, kid func(phrase) api.Term) api.Term {
	n := s.cons.number(p.text)
	if len(p.kids) != s.Cons[n].Args {
		panic(giveUp{api.ErrRule})
	}
	return api.Term{Op: api.TermCon, N: n, Kids: each(p.kids, kid)}
}

// named makes a call of what has a function's name, and a variable of any other name.
func (s letScope) named(p phrase) api.Term {
	if !s.funs.has(p.text) && len(p.kids) == 0 {
		return api.Term{Op: api.TermVar, N: s.number(p.text)}
	}
	n := s.funs.number(p.text)
	missing := s.Funs[n].Args - len(p.kids)
	if missing < 0 {
		panic(giveUp{api.ErrRule})
	}
	made := api.Term{Op: api.TermFun, N: n, Kids: each(p.kids, s.term)}
	if missing > 0 {
		made.Op = api.TermPart
	}
	return made
}

func (s letScope) let(p phrase) api.Term {
	own := s.variable(p.text)
	is := s.term(p.kids[0])
	body := s.inside(p.text, own).term(p.kids[1])
	return api.Term{Op: api.TermLet, N: own, Kids: []api.Term{is, body}}
}

// integerOf can't fail: a token has few digits.
func integerOf(text string) int {
	n, _ := strconv.Atoi(strings.Replace(text, "~", "-", 1))
	return n
}

// each returns what is made of each part of a list.
func each[A, B any](list []A, of func(A) B) []B {
	var made []B
	for _, x := range list {
		made = append(made, of(x))
	}
	return made
}
