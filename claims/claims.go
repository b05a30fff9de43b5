// Package claims finds memory that is shared, for the tests of R4: they claim
// all lists of arguments and of results. The program itself does not use it.
package claims

import "swingle/api"

// Memory has all parts of lists that were claimed.
type Memory struct {
	met  map[any]bool
	fail func(...any)
}

// New returns memory of which nothing is claimed. What is claimed twice fails.
func New(fail func(...any)) Memory { return Memory{map[any]bool{}, fail} }

// List claims a list, with the room behind its end.
func List[T any](m Memory, list []T) {
	list = list[:cap(list)]
	for i := range list {
		if m.met[&list[i]] {
			m.fail("memory is shared")
		}
		m.met[&list[i]] = true
	}
}

// Terms claims expressions.
func (m Memory) Terms(list []api.Term) {
	List(m, list)
	for _, t := range list {
		m.Terms(t.Kids)
	}
}

// Types claims types.
func (m Memory) Types(list []api.KindType) {
	List(m, list)
	for _, t := range list {
		m.Types(t.Parts)
	}
}

// Program claims a program.
func (m Memory) Program(p api.RuleProg) {
	List(m, p.Sig.Cons)
	List(m, p.Sig.Funs)
	List(m, p.Rules)
	for _, r := range p.Rules {
		m.Terms(r.Pats)
		m.Terms(r.Rhs.Kids)
	}
}
