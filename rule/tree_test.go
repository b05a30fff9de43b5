package rule_test

import (
	"testing"

	"swingle/api"
	"swingle/rule"
	"swingle/sample"
)

func checkTree(t *testing.T, p api.RuleProg, fun int, want string) {
	t.Helper()
	n, e := rule.Tree(p, fun)
	if e != api.OK {
		t.Error(fun, e)
		return
	}
	if got := showTree(p.Sig, n); got != want {
		t.Errorf("%d:\n%s want\n%s", fun, got, want)
	}
}

func checkKinds(t *testing.T, p api.RuleProg, fun int, sequential, overlaps bool) {
	t.Helper()
	s, o, e := rule.Kinds(p, fun)
	if s != sequential || o != overlaps || e != api.OK {
		t.Error(fun, s, o, e)
	}
}

// P5.2: the examples.
func TestTreeExamples(t *testing.T) {
	p := progOf(t, sample.Rules)
	checkTree(t, p, 0, "0 {Z: leaf 0; S: leaf 1}")
	checkTree(t, p, 1, "or [0 {False: 1 {False: leaf 4}; True: leaf 2}; 1 {True: leaf 3}]")
	checkTree(t, p, 2, "leaf 5 6")
	checkTree(t, p, 3, "or [leaf 8; 0 {Cons: leaf 7}]")
	checkKinds(t, p, 0, true, false)
	checkKinds(t, p, 1, false, true)
	checkKinds(t, p, 2, true, true)
	checkKinds(t, p, 3, false, true)
}

// P5.2: each way in which a node is chosen.
func TestTree(t *testing.T) {
	for _, x := range []struct{ rules, want string }{
		// Leaves of all rules that match.
		{"f(x, y) = 1; f(a, b) = 2;", "leaf 0 1"},
		{"f(x) = 1;", "leaf 0"},
		// The first position that all need, though the first rule needs an earlier one.
		{"f(Z, Z) = 1; f(x, S(y)) = 2;", "1 {Z: 0 {Z: leaf 0}; S: leaf 1}"},
		{"f(Tri(Z, x, S(y))) = 1; f(Tri(x, y, Z)) = 2;", "0 {Tri: 0 2 {Z: leaf 1; S: 0 0 {Z: leaf 0}}}"},
		{"f(Tri(Z, x, S(y))) = 1; f(Tri(S(x), y, Z)) = 2;", "0 {Tri: 0 0 {Z: 0 2 {S: leaf 0}; S: 0 2 {Z: leaf 1}}}"},
		// A part of an argument comes before the next argument.
		{"f(S(Z), Z) = 1;", "0 {S: 0 0 {Z: 1 {Z: leaf 0}}}"},
		{"f(x, Tri(Z, S(S(y)), Z), Z) = 1;", "1 {Tri: 1 0 {Z: 1 1 {S: 1 1 0 {S: 1 2 {Z: 2 {Z: leaf 0}}}}}}"},
		// Constructors increase, whatever the order of the rules.
		{"f(S(x)) = 1; f(True) = 2; f(Nil) = 3; f(False) = 4; f(S(y)) = 5;", "0 {False: leaf 3; True: leaf 1; S: leaf 0 4; Nil: leaf 2}"},
		// An or of the rules that match, and of the others.
		{"f(Z) = 1; f(x) = 2; f(S(x)) = 3; f(x) = 4;", "or [leaf 1 3; 0 {Z: leaf 0; S: leaf 2}]"},
		{"f(x, y) = 1; f(Z, y) = 2; f(x, Z) = 3;", "or [leaf 0; or [0 {Z: leaf 1}; 1 {Z: leaf 2}]]"},
		{"f(S(Z), x) = 1; f(S(x), y) = 2; f(Z, Z) = 3;", "0 {Z: 1 {Z: leaf 2}; S: or [leaf 1; 0 0 {Z: leaf 0}]}"},
		// An or of the rules that need the first rule's first position, and of the others.
		{"f(Z, x) = 1; f(x, Z) = 2;", "or [0 {Z: leaf 0}; 1 {Z: leaf 1}]"},
		{"f(x, Z) = 1; f(Z, x) = 2;", "or [1 {Z: leaf 0}; 0 {Z: leaf 1}]"},
		{"f(x, Z) = 1; f(Z, x) = 2; f(Z, S(x)) = 3;", "or [1 {Z: leaf 0; S: 0 {Z: leaf 2}}; 0 {Z: leaf 1}]"},
		{"f(x, Z, Z) = 1; f(Z, x, Z) = 2; f(Z, Z, x) = 3;", "or [1 {Z: or [2 {Z: leaf 0}; 0 {Z: leaf 2}]}; 0 {Z: 2 {Z: leaf 1}}]"},
		{"f(Cons(Z, x)) = 1; f(Cons(x, Nil)) = 2; f(Nil) = 3;", "0 {Nil: leaf 2; Cons: or [0 0 {Z: leaf 0}; 0 1 {Nil: leaf 1}]}"},
		{"f(Cons(Z, x), Z) = 1; f(Cons(x, Nil), S(y)) = 2;", "0 {Cons: 1 {Z: 0 0 {Z: leaf 0}; S: 0 1 {Nil: leaf 1}}}"},
		// Two rules with equal patterns.
		{"f(S(x), Z) = 1; f(S(y), Z) = 2;", "0 {S: 1 {Z: leaf 0 1}}"},
		// Rules of other functions are not there.
		{"f(Z) = 1; g(x) = 1; f(S(x)) = 2; g(Z) = 2;", "0 {Z: leaf 0; S: leaf 2}"},
	} {
		checkTree(t, progOf(t, x.rules), 0, x.want)
	}
}

// P5.2: a function without rules has a fail, is sequential, and does not overlap.
func TestFail(t *testing.T) {
	p := progOf(t, sample.Rules)
	p.Sig.Funs = append(p.Sig.Funs, api.TermName{Name: "none"}, api.TermName{Name: "three", Args: 3})
	for _, fun := range []int{4, 5} {
		checkTree(t, p, fun, "fail")
		checkKinds(t, p, fun, true, false)
	}
}

// P5.2: an or or a leaf of two rules somewhere below counts.
func TestKinds(t *testing.T) {
	for _, x := range []struct {
		rules                string
		sequential, overlaps bool
	}{
		{"f(S(S(x)), y) = 1; f(S(Z), y) = 2; f(Z, S(x)) = 3;", true, false},
		{"f(S(S(x)), y) = 1; f(S(Z), y) = 2; f(S(Z), z) = 3; f(Z, y) = 3;", true, true},
		{"f(S(S(x)), y) = 1; f(S(Z), y) = 2; f(S(x), Z) = 3; f(Z, y) = 3;", false, true},
		{"f(S(S(x)), y) = 1; f(S(y), x) = 2; f(Z, y) = 3;", false, true},
		{"f(x) = 1; f(y) = 2;", true, true},
		{"f(x) = 1;", true, false},
		{"f = 1;", true, false},
	} {
		checkKinds(t, progOf(t, x.rules), 0, x.sequential, x.overlaps)
	}
}

// P5.2: a tree can have 80 nodes, and no more.
func TestLongTree(t *testing.T) {
	for _, x := range []struct {
		p    api.RuleProg
		fun  int
		want int // 0: too many
	}{
		{sample.Wide(sample.Rule(0, sample.Thicket(9), sample.Thicket(9), con(2), v(0))), 0, 76},
		{sample.Wide(sample.Rule(0, sample.Thicket(9), sample.Thicket(9), tower(4, 4, con(2)), v(0))), 0, 80},
		{sample.Wide(sample.Rule(0, sample.Thicket(9), sample.Thicket(9), tower(4, 4, con(2)), con(2))), 0, 0},
		{sample.Wide(sample.Rule(0, sample.Thicket(9), sample.Thicket(9), tower(5, 4, con(2)), v(0))), 0, 0},
		{sample.Wide(sample.Rule(0, sample.Thicket(9), sample.Thicket(9), sample.Thicket(9), sample.Thicket(9))), 0, 0},
		// With an or: its node, 37 + 1 and 40 + 1.
		{sample.Wide(sample.Rule(0, sample.Thicket(9), v(0), v(0), v(0)), sample.Rule(0, v(0), sample.Thicket(9), tower(2, 4, con(2)), v(0))), 0, 80},
		{sample.Wide(sample.Rule(0, sample.Thicket(9), v(0), v(0), v(0)), sample.Rule(0, v(0), sample.Thicket(9), tower(3, 4, con(2)), v(0))), 0, 0},
		{sample.Wide(sample.Rule(0, sample.Thicket(9), v(0), v(0), v(0)), sample.Rule(0, v(0), sample.Thicket(9), tower(1, 4, con(2)), v(0)), sample.Rule(0, v(0), v(0), v(0), v(0))), 0, 0},
		{sample.Wide(sample.Rule(0, sample.Thicket(9), v(0), v(0), v(0)), sample.Rule(0, v(0), sample.Thicket(9), con(2), v(0)), sample.Rule(0, v(0), v(0), v(0), v(0))), 0, 80},
		// The rules of another function do not count.
		{sample.Wide(sample.Rule(0, sample.Thicket(9), sample.Thicket(9), tower(4, 4, con(2)), v(0)), sample.Rule(1, con(2))), 0, 80},
		{sample.Wide(sample.Rule(0, sample.Thicket(9), sample.Thicket(9), sample.Thicket(9), sample.Thicket(9)), sample.Rule(1, con(2))), 1, 2},
	} {
		n, e := rule.Tree(x.p, x.fun)
		sequential, overlaps, f := rule.Kinds(x.p, x.fun)
		if x.want > 0 {
			several := len(x.p.Rules) > 1 && x.p.Rules[1].Fun == 0
			if e != api.OK || f != api.OK || countNodes(n) != x.want || sequential == several || overlaps != several {
				t.Error(x.want, countNodes(n), sequential, overlaps, e, f)
			}
			continue
		}
		if e != api.ErrLong || f != api.ErrLong || showTree(x.p.Sig, n) != "none" || sequential || overlaps {
			t.Error(countNodes(n), sequential, overlaps, e, f)
		}
	}
}

// P5.2: positions of the greatest length, at the depth of 12.
func TestDeepTree(t *testing.T) {
	p := sample.Wide(sample.Rule(1, tower(11, 4, con(2))), sample.Rule(1, tower(11, 4, con(1))))
	n, e := rule.Tree(p, 1)
	for e == api.OK && n.Op == api.RuleBranch && len(n.Kids) == 1 {
		n = n.Kids[0]
	}
	if got := showTree(p.Sig, n); got != "0 0 0 0 0 0 0 0 0 0 0 0 {True: leaf 1; Z: leaf 0}" {
		t.Error(got, e)
	}
}
