package rule_test

import (
	"testing"

	"swingle/api"
	"swingle/rule"
	"swingle/sample"
)

func checkMissing(t *testing.T, p api.RuleProg, fun int, groups [][]int, want string, why api.Errno) {
	t.Helper()
	list, e := rule.Missing(p, fun, groups)
	if got := showArgs(p.Sig, list); e != why || got != want {
		t.Error(fun, got, e, "want", want, why)
	}
}

// P5.4: the examples.
func TestMissingExamples(t *testing.T) {
	p := progOf(t, sample.Rules)
	for fun := range 4 {
		checkMissing(t, p, fun, groups(), "", api.ErrNone)
	}
	checkMissing(t, without(p, 1), 0, groups(), "S(v0), v1", api.OK)
	checkMissing(t, without(p, 0), 0, groups(), "Z, v0", api.OK)
	checkMissing(t, without(p, 3), 1, groups(), "False, True", api.OK)
	checkMissing(t, without(p, 4), 1, groups(), "False, False", api.OK)
	checkMissing(t, without(p, 2), 1, groups(), "True, False", api.OK)
	checkMissing(t, without(p, 8), 3, groups(), "Nil", api.OK)
	checkMissing(t, without(p, 5), 2, groups(), "", api.ErrNone)
}

// P5.4: groups say which constructors there are, and in which order they are looked at.
func TestMissingGroups(t *testing.T) {
	p := progOf(t, "f(S(Z), Nil) = 1; f(Z, x) = 2;")
	for _, x := range []struct {
		groups [][]int
		want   string
		why    api.Errno
	}{
		{groups(), "S(Z), Cons(v0, v1)", api.OK},
		{[][]int{{0, 1}, {3, 2}, {5, 4}, {6}}, "S(S(v0)), v1", api.OK},
		{[][]int{{0, 1}, {2, 3}, {5, 4}, {6}}, "S(Z), Cons(v0, v1)", api.OK},
		{[][]int{{4}, {2, 3}, {5, 0, 1, 6}}, "S(S(v0)), v1", api.OK},
		{[][]int{{4}, {3}, {2}, {5, 0, 1, 6}}, "", api.ErrNone},
		{[][]int{{4, 6}, {3}, {2}, {5, 0, 1}}, "S(Z), Tri(v0, v1, v2)", api.OK},
		{[][]int{{4, 0}, {3, 6, 2, 1}, {5}}, "S(S(v0)), v1", api.OK},
		{[][]int{{4, 0}, {6, 3, 2, 1}, {5}}, "Tri(v0, v1, v2), v3", api.OK},
		{[][]int{{0}, {1}, {2}, {3}, {4}, {5}, {6}}, "", api.ErrNone},
		{[][]int{{6, 5, 4, 3, 2, 1, 0}}, "Tri(v0, v1, v2), v3", api.OK},
	} {
		checkMissing(t, p, 0, x.groups, x.want, x.why)
	}
}

// P5.4: the first rule that fits, and the first position that it needs.
func TestMissing(t *testing.T) {
	for _, x := range []struct{ rules, want string }{
		{"f(x) = 1;", ""},
		{"f(x) = 1; f(Z) = 1;", ""},
		{"f(Z) = 1; f(x) = 1;", ""},
		{"f(S(S(x))) = 1; f(Z) = 1;", "S(Z)"},
		{"f(S(S(x))) = 1; f(S(Z)) = 1;", "Z"},
		{"f(S(S(x))) = 1; f(S(Z)) = 1; f(Z) = 2;", ""},
		{"f(x, Z) = 1; f(Z, S(x)) = 2;", "S(v0), S(v1)"},
		{"f(Z, S(x)) = 2; f(x, Z) = 1;", "S(v0), S(v1)"},
		{"f(x, S(Z)) = 1; f(S(x), y) = 2;", "Z, Z"},
		{"f(S(x), y) = 2; f(x, S(Z)) = 1;", "Z, Z"},
		{"f(x, y, S(z)) = 1; f(Tri(Z, x, Z), y, Z) = 1;", "Tri(Z, v0, S(v1)), v2, Z"},
		{"f(x, y, S(z)) = 1; f(Tri(Z, x, Z), y, Z) = 1; f(Tri(x, y, S(z)), Z, Z) = 2;", "Tri(Z, v0, S(v1)), S(v2), Z"},
		{"f(True, x, y) = 1; f(x, False, True) = 1; f(False, True, x) = 1;", "False, False, False"},
		{"f(True, x, y) = 1; f(x, False, True) = 1; f(False, x, False) = 1;", "False, True, True"},
		{"f(True, x, False) = 1; f(False, True, x) = 1; f(x, False, True) = 1;", "False, False, False"},
		{"f(Cons(S(x), Cons(y, z))) = 1; f(Nil) = 2; f(Cons(x, Nil)) = 2;", "Cons(Z, Cons(v0, v1))"},
		{"f(Z, Nil) = 1; f(True, Nil) = 2;", "Z, Cons(v0, v1)"},
		{"f(True, Nil) = 2; f(Z, Nil) = 1;", "False, v0"},
	} {
		want := api.OK
		if x.want == "" {
			want = api.ErrNone
		}
		checkMissing(t, progOf(t, x.rules), 0, groups(), x.want, want)
	}
	p := progOf(t, sample.Rules)
	p.Sig.Funs = append(p.Sig.Funs, api.TermName{Name: "none"}, api.TermName{Name: "three", Args: 3})
	checkMissing(t, p, 4, groups(), "", api.OK)
	checkMissing(t, p, 5, groups(), "v0, v1, v2", api.OK)
}

// P5.4: a shape that is missing has at most 20 variables, and arguments of 40 nodes and of a depth of 12.
func TestMissingNotFormed(t *testing.T) {
	one := con(2)
	four := func() api.Term { return con(3, v(0), v(0), v(0), v(0)) }
	seven := func() api.Term { return con(3, four(), v(0), v(0), v(0)) }
	five := con(3, con(3, v(0), v(0), v(0), one), v(0), v(0), one)
	nested := one
	for range 7 {
		nested = con(3, nested, one, one, one)
	}
	deeper := [][]int{{0}, {4, 2}, {1}, {3}, {5}}
	last := [][]int{{0}, {2, 1}, {4}, {3}, {5}}
	first := [][]int{{0}, {1, 2}, {4}, {3}, {5}}
	larger := [][]int{{0}, {2, 5}, {4}, {3}, {1}}
	for i, x := range []struct {
		p      api.RuleProg
		fun    int
		groups [][]int
		want   string
		why    api.Errno
	}{
		{sample.Wide(sample.Rule(1, tower(10, 4, one))), 1, deeper, "S(S(S(S(S(S(S(S(S(S(S(v0)))))))))))", api.OK},
		{sample.Wide(sample.Rule(1, tower(11, 4, one))), 1, deeper, "", api.ErrLong},
		{sample.Wide(sample.Rule(1, tower(11, 4, one))), 1, last, "S(S(S(S(S(S(S(S(S(S(S(True)))))))))))", api.OK},
		{sample.Wide(sample.Rule(1, tower(11, 4, v(0)))), 1, deeper, "S(S(S(S(S(S(S(S(S(S(Z))))))))))", api.OK},
		{sample.Wide(sample.Rule(0, seven(), seven(), five, v(0))), 0, last, "Q(Q(v0, v1, v2, v3), v4, v5, v6), Q(Q(v7, v8, v9, v10), v11, v12, v13), Q(Q(v14, v15, v16, Z), v17, v18, True), v19", api.OK},
		{sample.Wide(sample.Rule(0, seven(), seven(), five, v(0))), 0, first, "", api.ErrLong},
		// Here a shape with 22 variables is looked at before.
		{sample.Wide(sample.Rule(1, nested)), 1, last, "Q(Q(Q(Q(Q(Q(Q(Z, Z, Z, Z), Z, Z, Z), Z, Z, Z), Z, Z, Z), Z, Z, Z), Z, Z, Z), Z, Z, True)", api.OK},
		{sample.Wide(sample.Rule(1, nested)), 1, first, "", api.ErrLong},
		{sample.Wide(sample.Rule(1, tower(3, 4, sample.Thicket(8)))), 1, larger, "S(S(S(Q(Z, Q(Z, Q(Z, Q(Z, Q(Z, Q(Z, Q(Z, Q(Z, Z, Z, Z), Z, Z), Z, Z), Z, Z), Z, Z), Z, Z), Z, Z), Z, R(v0, v1, v2, v3)))))", api.OK},
		{sample.Wide(sample.Rule(1, sample.Thicket(9))), 1, larger, "", api.ErrLong},
	} {
		list, e := rule.Missing(x.p, x.fun, x.groups)
		if got := showArgs(x.p.Sig, list); e != x.why || got != x.want {
			t.Error(i, got, e)
		}
	}
}

// manyLooks looks at 261 shapes, and one more for each S that is in the last rule.
func manyLooks(last ...api.Term) api.RuleProg {
	p := api.RuleProg{Sig: api.TermSig{Cons: []api.TermName{
		{Name: "False"}, {Name: "True"}, {Name: "Left"}, {Name: "Right"},
		{Name: "A"}, {Name: "B"}, {Name: "C"}, {Name: "D"}, {Name: "E"}, {Name: "F"}, {Name: "S", Args: 1}, {Name: "Two", Args: 2},
	}, Funs: []api.TermName{{Name: "f", Args: 4}}}}
	p.Rules = append(p.Rules, sample.Rule(0, con(2), con(4), con(4), con(4)), sample.Rule(0, con(2), v(0), con(4), con(4)))
	for c := range 6 {
		p.Rules = append(p.Rules, sample.Rule(0, con(2), v(0), v(0), con(4+c)))
	}
	p.Rules = append(p.Rules, sample.Rule(0, append(terms(con(3)), last...)...))
	return p
}

// P5.4: 300 shapes are looked at, that which is missing with them, and no more.
func TestMissingLooks(t *testing.T) {
	ss := func(n int) api.Term { return tower(n, 10, v(0)) }
	none := [][]int{{0}, {1}, {2, 3}, {4, 5, 6, 7, 8, 9}, {10}, {11}}
	some := [][]int{{0}, {2, 3}, {4, 5, 6, 7, 8, 9}, {10, 1}, {11}}
	for i, x := range []struct {
		p      api.RuleProg
		groups [][]int
		want   string
		why    api.Errno
	}{
		{manyLooks(ss(11), ss(11), con(11, ss(10), ss(6))), none, "", api.ErrNone},
		{manyLooks(ss(11), ss(11), con(11, ss(10), ss(7))), none, "", api.ErrLong},
		{manyLooks(ss(11), ss(11), con(11, ss(10), ss(5))), some, "Right, S(S(S(S(S(S(S(S(S(S(S(v0))))))))))), S(S(S(S(S(S(S(S(S(S(S(v1))))))))))), Two(S(S(S(S(S(S(S(S(S(S(v2)))))))))), S(S(S(S(True)))))", api.OK},
		{manyLooks(ss(11), ss(11), con(11, ss(10), ss(6))), some, "", api.ErrLong},
		// What is looked at first is not missing, and what is missing is not looked at first.
		{manyLooks(ss(11), ss(11), ss(11)), [][]int{{0}, {1, 10}, {2, 3}, {4, 5, 6, 7, 8, 9}, {11}}, "Right, True, v0, v1", api.OK},
		{manyLooks(ss(11), ss(11), con(11, ss(10), ss(10))), [][]int{{0}, {1, 10}, {3, 2}, {4, 5, 6, 7, 8, 9}, {11}}, "Right, True, v0, v1", api.OK},
		{without(manyLooks(ss(11), ss(11), con(11, ss(10), ss(10))), 7), none, "Left, A, A, F", api.OK},
	} {
		list, e := rule.Missing(x.p, 0, x.groups)
		if got := showArgs(x.p.Sig, list); e != x.why || got != x.want {
			t.Error(i, got, e)
		}
	}
}
