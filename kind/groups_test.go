package kind_test

import (
	"math/rand"
	"testing"

	"swingle/api"
	"swingle/kind"
)

// P3.3: Groups.
func TestGroups(t *testing.T) {
	for _, x := range []struct{ source, want string }{
		{lists, "0; 1; 2; 3"},
		{"", ""},
		{"f = 1;", "0"},
		{"f = f;", "0"},
		{"f = g; g = 1;", "1; 0"},
		{"f = h; g = 1; h = 2;", "1; 2; 0"},
		{"f = g; g = f;", "0 1"},
		{"f = h; g = 1; h = f;", "0 2; 1"},
		{"f = h; g = 1; h = f + g;", "1; 0 2"},
		{"f = g; g = h; h = i; i = g;", "1 2 3; 0"},
		{"f = g; g = h; h = 1;", "2; 1; 0"},
		{"f = 1; g = f; h = f ? k; k = h; l = f;", "0; 1; 2 3; 4"},
		// Calls in all places: parts, conditions and lets; rules behind others.
		{"f = g @ 1; g(x) = 1;", "1; 0"},
		{"f = let x = g in 1; g(x) = 1;", "1; 0"},
		{"f = let x = 1 in when x < g then 1; g = 1;", "1; 0"},
		{"f = 1; f = Cons(1, g); g = Nil; data List a = Nil | Cons(a, List(a));", "1; 0"},
		{"f(x) = 1; g(x) = x @ f; f(True) = g(1);", "0 1"},
		{"a = b; b = c; c = d; d = e; e = f; f = g; g = h; h = a;", "0 1 2 3 4 5 6 7"},
		{"a = b; b = c; c = d; d = e; e = f; f = g; g = h; h = 1;", "7; 6; 5; 4; 3; 2; 1; 0"},
		{"a = h; b = g; c = f; d = e; e = d; f = c; g = b; h = a;", "0 7; 1 6; 2 5; 3 4"},
	} {
		got, e := kind.Groups(mustModule(t, x.source).Prog)
		if e != api.OK || showGroups(got) != x.want {
			t.Errorf("%v: got %v %q, want %q", x.source, e, showGroups(got), x.want)
		}
	}
	// Functions without rules are groups, too.
	m := mustModule(t, "f = g; g = h; h = 1; i = 1;")
	m.Prog.Rules = m.Prog.Rules[:1]
	if got, e := kind.Groups(m.Prog); e != api.OK || showGroups(got) != "1; 0; 2; 3" {
		t.Error(e, got)
	}
}

// P3.3: groups of programs with any calls.
func TestRandomGroups(t *testing.T) {
	r := rand.New(rand.NewSource(4))
	for range 5000 {
		var p api.RuleProg
		p.Sig.Cons = []api.TermName{{Name: "False"}, {Name: "True"}}
		funs := r.Intn(9)
		for f := range funs {
			p.Sig.Funs = append(p.Sig.Funs, api.TermName{Name: string([]byte{byte('a' + f)}), Args: r.Intn(2)})
		}
		for range r.Intn(17) * min(funs, 1) {
			made := api.RuleRule{Fun: r.Intn(funs), Rhs: num(1), Vars: 1}
			if p.Sig.Funs[made.Fun].Args == 1 {
				made.Pats = []api.Term{v(0)}
			}
			for range r.Intn(3) {
				g := r.Intn(funs)
				call := node(api.TermPart, g)
				if p.Sig.Funs[g].Args == 0 {
					call.Op = api.TermFun
				}
				made.Rhs = or(made.Rhs, call)
			}
			p.Rules = append(p.Rules, made)
		}
		got, e := kind.Groups(p)
		if e != api.OK || showGroups(got) != showGroups(refGroups(p)) {
			t.Fatal(e, showGroups(got), showGroups(refGroups(p)), each(p.Rules, showRule))
		}
	}
}
