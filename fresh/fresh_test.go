package fresh_test

import (
	"reflect"
	"testing"

	"swingle/api"
	"swingle/fresh"
)

func node(n int, kids ...api.Term) api.Term {
	return api.Term{Op: api.TermCon, N: n, Kids: kids}
}

func program() api.RuleProg {
	return api.RuleProg{
		Sig: api.TermSig{Cons: []api.TermName{{Name: "False"}, {Name: "True"}}, Funs: []api.TermName{{Name: "f", Args: 1}}},
		Rules: []api.RuleRule{
			{Fun: 0, Pats: []api.Term{node(2, node(1))}, Rhs: node(3, node(4), node(5)), Vars: 7},
			{Fun: 0, Pats: []api.Term{node(8)}, Rhs: node(9), Vars: 10},
		},
	}
}

// scratch changes an expression wherever it has memory.
func scratch(t api.Term) {
	for i := range t.Kids {
		scratch(t.Kids[i])
		t.Kids[i] = api.Term{}
	}
}

func TestTerm(t *testing.T) {
	x := node(1, node(2, node(3)), node(4))
	same := fresh.Term(x)
	scratch(x)
	if !reflect.DeepEqual(same, node(1, node(2, node(3)), node(4))) {
		t.Error(same)
	}
}

func TestProgram(t *testing.T) {
	p := program()
	same := fresh.Program(p)
	p.Sig.Cons[1].Name = "T"
	p.Sig.Funs[0].Args = 2
	for i, r := range p.Rules {
		for n := range r.Pats {
			scratch(r.Pats[n])
			r.Pats[n] = api.Term{}
		}
		scratch(r.Rhs)
		p.Rules[i] = api.RuleRule{}
	}
	if !reflect.DeepEqual(same, program()) {
		t.Error(same)
	}
}
