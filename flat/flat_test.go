package flat_test

import (
	"testing"

	"swingle/api"
	"swingle/flat"
	"swingle/sample"
)

func checkFlat(t *testing.T, rules string, wants ...string) {
	t.Helper()
	f := flatOf(t, rules)
	if e := flat.Check(f); e != api.OK || len(f.Trees) != len(wants) {
		t.Error(rules, e, len(f.Trees))
		return
	}
	for fun, want := range wants {
		if got := showTree(f.Trees[fun]); got != want {
			t.Errorf("%s %d:\n%s want\n%s", rules, fun, got, want)
		}
	}
	if got := showProg(f.Prog); got != showProg(progOf(t, rules)) {
		t.Error(rules, got)
	}
}

// P7.2: the examples.
func TestFlatExamples(t *testing.T) {
	checkFlat(t, sample.Rules,
		"case 0 {2: rule 0 [1]; 3 [2]: rule 1 [2 1]}",
		"or {case 0 {0: case 1 {0: rule 4}; 1: rule 2 [1]}; case 1 {1: rule 3 [0]}}",
		"or {rule 5; rule 6}",
		"or {rule 8 [0 -1]; case 0 {5 [1 2]: rule 7 [1 2]}}")
}

// P7.2: what becomes of each node of a definitional tree, and which numbers variables have.
func TestFlat(t *testing.T) {
	for _, x := range []struct{ rules, want string }{
		{"f = 1;", "rule 0"},
		{"f(x, y) = 1; f(a, b) = 2; f(c, d) = 3;", "or {rule 0 [0 1]; rule 1 [0 1]; rule 2 [0 1]}"},
		// The numbers go on where they are at the case, in each Alt.
		{"f(Z, x) = 1; f(S(y), x) = 2; ", "case 0 {2: rule 0 [1]; 3 [2]: rule 1 [2 1]}"},
		{"f(Cons(x, y)) = 1; f(Tri(x, y, z)) = 2; f(S(x)) = 3; f(Nil) = 4;", "case 0 {3 [1]: rule 2 [1]; 4: rule 3; 5 [1 2]: rule 0 [1 2]; 6 [1 2 3]: rule 1 [1 2 3]}"},
		{"f(Cons(S(x), y)) = 1; f(Cons(Z, y)) = 2;", "case 0 {5 [1 2]: case 1 {2: rule 1 [2]; 3 [3]: rule 0 [3 2]}}"},
		{"f(Tri(x, Tri(a, S(b), c), z), S(y)) = 1;", "case 0 {6 [2 3 4]: case 3 {6 [5 6 7]: case 6 {3 [8]: case 1 {3 [9]: rule 0 [2 5 8 7 4 9]}}}}"},
		{"f(x, Cons(a, S(b)), y) = 1; f(x, Cons(Z, z), y) = 2;", "case 1 {5 [3 4]: or {case 4 {3 [5]: rule 0 [0 3 5 2]}; case 3 {2: rule 1 [0 4 2]}}}"},
		// At an or the numbers go on in each Kid.
		{"f(S(x), y) = 1; f(x, S(y)) = 2; f(Z, Z) = 3;", "or {case 0 {2: case 1 {2: rule 2}; 3 [2]: rule 0 [2 1]}; case 1 {3 [2]: rule 1 [0 2]}}"},
		{"f(Z) = 1; f(x) = 2; f(S(x)) = 3; f(x) = 4;", "or {or {rule 1 [0]; rule 3 [0]}; case 0 {2: rule 0; 3 [1]: rule 2 [1]}}"},
		// Variables that Pats do not have are free, or those of lets.
		{"f(x) = let y = z in y;", "rule 0 [0 -1 -1]"},
		{"f(S(x)) = y + x;", "case 0 {3 [1]: rule 0 [1 -1]}"},
		{"f = let y = 1 in y;", "rule 0 [-1]"},
	} {
		checkFlat(t, x.rules, x.want)
	}
}

// P7.2: variables need not come in order in a rule, and the order of those of Pats and of others is any.
func TestFlatVars(t *testing.T) {
	p := progOf(t, "f(Cons(x, y), z) = 1;")
	p.Rules[0].Pats = terms(con(5, v(5), v(1)), v(3))
	p.Rules[0].Vars = 7
	f, e := flat.Flat(p)
	if got := showTree(f.Trees[0]); e != api.OK || got != "case 0 {5 [2 3]: rule 0 [-1 3 -1 1 -1 2 -1]}" {
		t.Error(e, got)
	}
}

// P7.2: functions without rules, and programs without functions.
func TestFlatNothing(t *testing.T) {
	p := progOf(t, "f(x) = 1;")
	p.Sig.Funs = append(p.Sig.Funs, api.TermName{Name: "none"}, api.TermName{Name: "three", Args: 3})
	f, e := flat.Flat(p)
	if e != api.OK || len(f.Trees) != 3 || showTree(f.Trees[1]) != "fail" || showTree(f.Trees[2]) != "fail" || flat.Check(f) != api.OK {
		t.Error(e, showFlat(f))
	}
	p.Rules, p.Sig.Funs = nil, nil
	f, e = flat.Flat(p)
	if e != api.OK || len(f.Trees) != 0 || len(f.Prog.Sig.Cons) != 7 || flat.Check(f) != api.OK {
		t.Error(e, showFlat(f))
	}
}

// P7.2: a tree's variables are below 60, and its nodes those that a definitional tree can have, with the rules of its leaves.
func TestFlatLong(t *testing.T) {
	twice := func(r api.RuleRule) []api.RuleRule { return []api.RuleRule{r, r} }
	sixteen := func(r api.RuleRule) []api.RuleRule {
		list := twice(r)
		for len(list) < api.RuleRules {
			list = append(list, r)
		}
		return list
	}
	for i, x := range []struct {
		p     api.RuleProg
		nodes int // 0: too many nodes or numbers
	}{
		// 4 and 56 numbers, and a node for each of the 57 constructors.
		{sample.Wide(sample.Rule(0, sample.Thicket(9), sample.Thicket(5), v(0), v(0))), 59},
		{sample.Wide(sample.Rule(0, sample.Thicket(9), sample.Thicket(5), con(2), con(2))), 61},
		{sample.Wide(sample.Rule(0, sample.Thicket(9), sample.Thicket(5), con(4, con(2)), v(0))), 0},
		{sample.Wide(sample.Rule(0, sample.Thicket(9), sample.Thicket(5), con(4, v(0)), v(0))), 0},
		{sample.Wide(sample.Rule(0, sample.Thicket(9), sample.Thicket(6), v(0), v(0))), 0},
		// Layer 5 has 80 nodes, and no more; those of a leaf's rules come with it.
		{sample.Wide(sample.Rule(0, sample.Thicket(9), sample.Thicket(9), tower(4, 4, con(2)), v(0))), 0},
		{sample.Wide(sample.Rule(0, sample.Thicket(9), sample.Thicket(9), sample.Thicket(9), sample.Thicket(9))), 0},
		{sample.Wide(twice(sample.Rule(0, sample.Thicket(9), sample.Thicket(5), con(2), con(2)))...), 63},
		{sample.Wide(sixteen(sample.Rule(0, sample.Thicket(9), sample.Thicket(5), con(2), con(2)))...), 77},
		// With an or each Kid has numbers of its own.
		{sample.Wide(sample.Rule(0, sample.Thicket(9), v(0), v(0), v(0)), sample.Rule(0, v(0), sample.Thicket(9), con(2), v(0))), 78},
		// Another function's tree is too large.
		{sample.Wide(sample.Rule(1, con(2)), sample.Rule(0, sample.Thicket(9), sample.Thicket(6), v(0), v(0))), 0},
		{sample.Wide(sample.Rule(1, con(2)), sample.Rule(0, sample.Thicket(9), sample.Thicket(9), sample.Thicket(9), sample.Thicket(9))), 0},
	} {
		f, e := flat.Flat(x.p)
		if x.nodes == 0 {
			if e != api.ErrLong || showFlat(f) != "" {
				t.Error(i, e, showFlat(f))
			}
			continue
		}
		if e != api.OK || flat.Check(f) != api.OK || countNodes(f.Trees[0]) != x.nodes {
			t.Error(i, e, showFlat(f))
		}
	}
}

// bushy is a program whose function's definitional tree has 79 nodes and a leaf with some rules.
func bushy(rules int) api.RuleProg {
	p := sample.Wide()
	for range rules {
		p.Rules = append(p.Rules, sample.Rule(0, sample.Thicket(9), v(0), v(0), v(0)))
	}
	p.Rules = append(p.Rules, sample.Rule(0, v(0), sample.Thicket(9), tower(1, 4, con(2)), v(0)))
	return p
}

// P7.2: the largest definitional trees have flat ones that are formed.
func TestFlatMost(t *testing.T) {
	f, e := flat.Flat(bushy(15))
	if e != api.OK || flat.Check(f) != api.OK || countNodes(f.Trees[0]) != 79+15 {
		t.Error(e, countNodes(f.Trees[0]), showFlat(f))
	}
}

func checkFollow(t *testing.T, f api.FlatProg, fun int, args []api.Term, rules, asked string) {
	t.Helper()
	l, m, e := flat.Follow(f, fun, args)
	if e != api.OK || showNumbers(l) != rules || showNumbers(m) != asked {
		t.Error(fun, showTerms(args), "come to", l, m, e, "want", rules, "and", asked)
	}
}

// P7.3: the examples.
func TestFollowExamples(t *testing.T) {
	f := flatOf(t, sample.Rules)
	checkFollow(t, f, 1, terms(con(1), con(1)), "2 3", "0 1")
	checkFollow(t, f, 1, terms(v(0), con(1)), "3", "0 1")
	checkFollow(t, f, 1, terms(con(0), v(0)), "", "0 1")
}

// P7.3: where values lead, and which parameters they ask.
func TestFollow(t *testing.T) {
	z, one := con(2), con(3, con(2))
	part := node(api.TermPart, 0)
	f := flatOf(t, sample.Rules)
	for _, x := range []struct {
		fun          int
		args         []api.Term
		rules, asked string
	}{
		{0, terms(z, z), "0", "0"}, {0, terms(one, v(3)), "1", "0"}, {0, terms(v(3), z), "", "0"}, {0, terms(num(3), z), "", "0"}, {0, terms(part, z), "", "0"}, {0, terms(con(4), z), "", "0"}, {0, terms(con(3, v(0)), num(1)), "1", "0"},
		{1, terms(con(0), con(0)), "4", "0 1"}, {1, terms(con(1), con(0)), "2", "0 1"}, {1, terms(con(0), con(1)), "3", "0 1"}, {1, terms(num(0), num(1)), "", "0 1"},
		{2, nil, "5 6", ""},
		{3, terms(con(4)), "8", "0"}, {3, terms(con(5, v(0), v(1))), "8 7", "0"}, {3, terms(v(0)), "8", "0"},
	} {
		checkFollow(t, f, x.fun, x.args, x.rules, x.asked)
	}
	// Parameters count once, and variables of Alts not at all; a case that is not reached asks nothing.
	f = flatOf(t, "f(x, Cons(S(y), z), Z) = 1; f(x, Cons(y, Nil), Z) = 2; g(x, Z, y, S(w)) = 1; g(x, Z, S(y), z) = 2; h(S(Z), x) = 1; h(S(S(x)), Z) = 2;")
	if got := showTree(f.Trees[0]); got != "case 1 {5 [3 4]: case 2 {2: or {case 3 {3 [5]: rule 0 [0 5 4]}; case 4 {4: rule 1 [0 3]}}}}" {
		t.Error(got)
	}
	checkFollow(t, f, 0, terms(v(0), con(5, one, con(4)), z), "0 1", "1 2")
	checkFollow(t, f, 0, terms(v(0), con(5, z, con(4)), z), "1", "1 2")
	checkFollow(t, f, 0, terms(v(0), con(5, z, con(5, z, con(4))), z), "", "1 2")
	checkFollow(t, f, 0, terms(v(0), con(5, one, con(4)), one), "", "1 2")
	checkFollow(t, f, 0, terms(v(0), con(4), z), "", "1")
	checkFollow(t, f, 0, terms(v(0), v(0), v(0)), "", "1")
	checkFollow(t, f, 1, terms(v(0), z, one, one), "2 3", "1 2 3")
	checkFollow(t, f, 1, terms(v(0), one, one, one), "", "1")
	checkFollow(t, f, 2, terms(one, z), "4", "0")
	checkFollow(t, f, 2, terms(con(3, one), z), "5", "0 1")
}

// P7.3: rules come in the order of the tree, and another right tree comes to the same ones.
func TestFollowTrees(t *testing.T) {
	rules := "f(S(x), y) = 1; f(x, Z) = 2; f(S(x), S(y)) = 3; f(x, y) = 4;"
	one := con(3, con(2))
	s := func(v int, vars []int, then api.FlatTree) api.FlatTree { return asks(v, alt(3, vars, then)) }
	for _, x := range []struct {
		tree         api.FlatTree
		rules, asked string
	}{
		{or(is(3, 0, 1), s(0, ints(2), or(s(1, ints(3), is(2, 2, 3)), is(0, 2, 1))), asks(1, alt(2, nil, is(1, 0)))), "3 2 0", "0 1"},
		{or(s(0, ints(2), is(0, 2, 1)), or(s(1, ints(2), s(0, ints(3), is(2, 3, 2))), fail()), asks(1, alt(2, nil, is(1, 0)), alt(3, ints(2), fail())), is(3, 0, 1)), "0 2 3", "0 1"},
		{or(asks(1, alt(0, nil, fail()), alt(2, nil, is(1, 0)), alt(3, ints(2), s(0, ints(3), is(2, 3, 2)))), is(3, 0, 1), s(0, ints(2), is(0, 2, 1))), "2 3 0", "0 1"},
	} {
		f := with(t, rules, x.tree)
		if e := flat.Check(f); e != api.OK {
			t.Error(e, showTree(x.tree))
		}
		checkFollow(t, f, 0, terms(one, one), x.rules, x.asked)
		checkFollow(t, f, 0, terms(num(1), num(1)), "3", "0 1")
	}
}

func checkNeeds(t *testing.T, f api.FlatProg, fun int, want string) {
	t.Helper()
	list, e := flat.Needs(f, fun)
	if e != api.OK || showNumbers(list) != want {
		t.Error(fun, list, e, "want", want, showTree(f.Trees[fun]))
	}
}

// P7.4: the examples.
func TestNeedsExamples(t *testing.T) {
	f := flatOf(t, sample.Rules)
	for fun, want := range []string{"0", "", "", ""} {
		checkNeeds(t, f, fun, want)
	}
}

// P7.4: what is needed is asked on each way to a rule.
func TestNeeds(t *testing.T) {
	for _, x := range []struct{ rules, want string }{
		{"f(S(x), Z) = 1; f(Z, S(x)) = 2;", "0 1"},
		{"f(Z, x, S(y)) = 1; f(S(x), Z, Z) = 2;", "0 2"},
		{"f(Z, x, Z) = 1; f(S(x), Z, y) = 2; f(S(x), S(y), z) = 3;", "0"},
		{"f(x, y, z, Z) = 1; f(x, y, z, S(w)) = 2;", "3"},
		{"f(x, y) = 1;", ""},
		{"f(S(Z), x) = 1; f(S(S(Z)), y) = 2;", "0"},
		// Needed in each Kid of an or, at different places.
		{"f(Z, Z, x) = 1; f(Z, x, Z) = 2;", "0"},
		{"f(Z, x, Z) = 1; f(x, Z, Z) = 2;", "2"},
		// At the root of one Kid alone.
		{"f(Z, x) = 1; f(x, Z) = 2;", ""},
		{"f(Z) = 1; f(x) = 2;", ""},
	} {
		checkNeeds(t, flatOf(t, x.rules), 0, x.want)
	}
}

// P7.4: the tree counts, not the rules; and ways to fails do not count.
func TestNeedsTrees(t *testing.T) {
	for i, x := range []struct {
		rules string
		tree  api.FlatTree
		want  string
	}{
		{"f(Z, Z) = 1;", zero(0, zero(1, is(0))), "0 1"},
		{"f(Z, x) = 1;", or(zero(0, is(0, 1)), fail()), "0"},
		{"f(Z, x) = 1;", or(zero(0, is(0, 1)), zero(1, fail())), "0"},
		{"f(Z, x) = 1;", asks(0, alt(2, nil, or(zero(1, fail()), is(0, 1))), alt(3, ints(2), asks(2, alt(2, nil, fail())))), "0"},
		{"f(Z, x) = 1; f(Z, y) = 2;", or(zero(0, is(1, 1)), zero(0, is(0, 1))), "0"},
		{"f(Z, Z) = 1; f(Z, y) = 2;", or(zero(1, zero(0, is(0))), zero(0, is(1, 1))), "0"},
		{"f(Cons(Z, x), y) = 1;", asks(0, alt(5, ints(2, 3), zero(2, is(0, 3, 1)))), "0"},
	} {
		f := with(t, x.rules, x.tree)
		if e := flat.Check(f); e != api.OK {
			t.Error(i, e)
		}
		checkNeeds(t, f, 0, x.want)
	}
	// Without a FlatRule all are needed.
	p := progOf(t, "f = 1;")
	p.Sig.Funs = append(p.Sig.Funs, api.TermName{Name: "none"}, api.TermName{Name: "three", Args: 3}, api.TermName{Name: "four", Args: 4})
	f, e := flat.Flat(p)
	if e != api.OK {
		t.Fatal(e)
	}
	f.Trees[2] = or(zero(1, fail()), fail())
	for fun, want := range []string{"", "", "0 1 2", "0 1 2 3"} {
		checkNeeds(t, f, fun, want)
	}
}
