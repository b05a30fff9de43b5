package claims_test

import (
	"slices"
	"testing"

	"swingle/api"
	"swingle/build"
	"swingle/claims"
)

// fails counts how often memory was claimed twice.
func fails(do func(m claims.Memory)) int {
	count := 0
	do(claims.New(func(...any) { count++ }))
	return count
}

func TestList(t *testing.T) {
	room := make([]int, 2, 4)
	for i, x := range []struct {
		a, b []int
		want int
	}{
		{[]int{1, 2}, []int{1, 2}, 0}, {nil, nil, 0}, {room, slices.Clone(room), 0},
		{room, room, 4}, {room[:1], room[:2], 4}, {room[:1:1], room[1:2:2], 0}, {room[:2], room[2:3:3], 1}, {room[:0], room[3:4], 1},
	} {
		got := fails(func(m claims.Memory) {
			claims.List(m, x.a)
			claims.List(m, x.b)
		})
		if got != x.want {
			t.Error(i, got)
		}
	}
}

func TestTrees(t *testing.T) {
	x := build.Con(0, build.Con(1, build.Var(0)), build.Var(1))
	a := build.Arrow(build.OfData(1, build.TypeVar(0)), build.TypeVar(1))
	p := func(pat, rhs api.Term) api.RuleProg {
		return api.RuleProg{
			Sig:   api.TermSig{Cons: []api.TermName{{Name: "False"}}, Funs: []api.TermName{{Name: "f"}}},
			Rules: []api.RuleRule{{Pats: []api.Term{pat}, Rhs: rhs}},
		}
	}
	one := p(build.Var(0), build.Var(0))
	for i, c := range []struct {
		do   func(m claims.Memory)
		want int
	}{
		{func(m claims.Memory) { m.Terms([]api.Term{x}); m.Terms(x.Kids) }, 3},
		{func(m claims.Memory) { m.Terms(x.Kids); m.Terms(build.Terms(x.Kids...)) }, 3},
		{func(m claims.Memory) { m.Terms([]api.Term{x.Kids[0]}); m.Terms([]api.Term{build.Con(0, build.Var(1))}) }, 0},
		{func(m claims.Memory) { m.Types([]api.KindType{a}); m.Types(a.Parts) }, 3},
		{func(m claims.Memory) {
			m.Types([]api.KindType{a})
			m.Types([]api.KindType{build.OfData(1, build.TypeVar(0))})
		}, 0},
		{func(m claims.Memory) { m.Program(one); m.Program(one) }, 4},
		{func(m claims.Memory) { m.Program(p(x, build.Var(0))); m.Terms(x.Kids) }, 3},
		{func(m claims.Memory) { m.Program(p(build.Var(0), x)); m.Terms(x.Kids) }, 3},
		{func(m claims.Memory) { m.Program(p(build.Var(0), build.Var(0))); m.Program(one) }, 0},
	} {
		if got := fails(c.do); got != c.want {
			t.Error(i, got)
		}
	}
}
