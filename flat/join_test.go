package flat_test

import (
	"slices"
	"testing"

	"swingle/api"
	"swingle/flat"
)

// zero asks a variable for nothing but Z.
func zero(v int, then api.FlatTree) api.FlatTree { return asks(v, alt(2, nil, then)) }

func checkJoin(t *testing.T, f api.FlatProg, fun int, want string) {
	t.Helper()
	if e := flat.Check(f); e != api.OK {
		t.Error("not right:", showTree(f.Trees[fun]))
		return
	}
	made, e := flat.Join(f, fun)
	if e != api.OK || flat.Check(made) != api.OK {
		t.Error(showTree(f.Trees[fun]), e, showFlat(made))
		return
	}
	if got := showTree(made.Trees[fun]); got != want {
		t.Error(showTree(f.Trees[fun]), "becomes", got, "want", want)
	}
	// All else stays.
	made.Trees[fun] = f.Trees[fun]
	if showFlat(made) != showFlat(f) {
		t.Error(showFlat(made), "want", showFlat(f))
	}
}

// P7.5: ors in ors, fails in ors, and ors that are left with one Kid, or with none.
func TestJoin(t *testing.T) {
	rules := "f(x) = 1; f(x) = 2; f(x) = 3; f(Z) = 4;"
	a, b, c, d := is(0, 0), is(1, 0), is(2, 0), zero(0, is(3))
	nothing := or(fail(), or(fail(), fail()))
	for _, x := range []struct {
		tree api.FlatTree
		want string
	}{
		{or(a, b, c, d), "or {rule 0 [0]; rule 1 [0]; rule 2 [0]; case 0 {2: rule 3}}"},
		{or(or(a, b), or(c, d)), "or {rule 0 [0]; rule 1 [0]; rule 2 [0]; case 0 {2: rule 3}}"},
		{or(d, or(or(c, b), a)), "or {case 0 {2: rule 3}; rule 2 [0]; rule 1 [0]; rule 0 [0]}"},
		{or(d, or(c, or(b, a))), "or {case 0 {2: rule 3}; rule 2 [0]; rule 1 [0]; rule 0 [0]}"},
		{or(a, or(b, c), d), "or {rule 0 [0]; rule 1 [0]; rule 2 [0]; case 0 {2: rule 3}}"},
		{or(a, fail(), b, c, fail(), d), "or {rule 0 [0]; rule 1 [0]; rule 2 [0]; case 0 {2: rule 3}}"},
		{or(or(fail(), a), or(b, fail(), c), or(fail(), fail()), d), "or {rule 0 [0]; rule 1 [0]; rule 2 [0]; case 0 {2: rule 3}}"},
		{or(fail(), or(fail(), or(a, b, c, d))), "or {rule 0 [0]; rule 1 [0]; rule 2 [0]; case 0 {2: rule 3}}"},
		// Below a case, too; a case that comes to nothing stays.
		{or(a, b, c, zero(0, or(is(3), fail()))), "or {rule 0 [0]; rule 1 [0]; rule 2 [0]; case 0 {2: rule 3}}"},
		{or(a, or(b, c, d), zero(0, nothing)), "or {rule 0 [0]; rule 1 [0]; rule 2 [0]; case 0 {2: rule 3}; case 0 {2: fail}}"},
		{or(a, b, c, asks(0, alt(2, nil, or(nothing, is(3))), alt(3, ints(1), or(fail(), zero(1, fail()))))), "or {rule 0 [0]; rule 1 [0]; rule 2 [0]; case 0 {2: rule 3; 3 [1]: case 1 {2: fail}}}"},
	} {
		checkJoin(t, with(t, rules, x.tree), 0, x.want)
	}
	checkJoin(t, with(t, "f(Z) = 1;", or(fail(), zero(0, is(0)))), 0, "case 0 {2: rule 0}")
	checkJoin(t, with(t, "f(Z) = 1;", or(or(fail(), fail()), or(nothing, or(fail(), zero(0, is(0)))))), 0, "case 0 {2: rule 0}")
	checkJoin(t, with(t, "f(x) = 1;", or(is(0, 0), fail())), 0, "rule 0 [0]")
	checkJoin(t, with(t, "f(x) = 1;", is(0, 0)), 0, "rule 0 [0]")
	checkJoin(t, with(t, "f(Z) = 1;", asks(0, alt(2, nil, is(0)), alt(4, nil, fail()))), 0, "case 0 {2: rule 0; 4: fail}")
}

// P7.5: the other functions' trees stay as they are.
func TestJoinOthers(t *testing.T) {
	f := with(t, "f(x) = 1; g(x) = 1;", or(fail(), is(0, 0)), or(is(1, 0), fail()))
	checkJoin(t, f, 0, "rule 0 [0]")
	checkJoin(t, f, 1, "rule 1 [0]")
	p := progOf(t, "f(x) = 1;")
	p.Sig.Funs = append(p.Sig.Funs, api.TermName{Name: "none", Args: 1})
	checkJoin(t, api.FlatProg{Prog: p, Trees: []api.FlatTree{is(0, 0), or(or(fail(), fail()), fail())}}, 1, "fail")
}

// idle is so many cases of a variable that come to no rule.
func idle(v, many int) []api.FlatTree {
	return slices.Repeat([]api.FlatTree{zero(v, fail())}, many)
}

// P7.5: an or can have 16 Kids, and no more; those that are left out do not count.
func TestJoinLong(t *testing.T) {
	fails := func(many int) []api.FlatTree { return slices.Repeat([]api.FlatTree{fail()}, many) }
	a := is(0, 0)
	for i, x := range []struct {
		tree api.FlatTree
		kids int // 0: too many
	}{
		{or(or(idle(0, 15)...), a), 16},
		{or(or(idle(0, 16)...), a), 0},
		{or(a, or(idle(0, 8)...), or(idle(0, 7)...)), 16},
		{or(a, or(idle(0, 8)...), or(idle(0, 8)...)), 0},
		{or(a, or(or(idle(0, 8)...), or(idle(0, 9)...))), 0},
		{or(a, or(idle(0, 15)...), or(fails(16)...), or(fails(16)...), fail()), 16},
		{or(a, or(append(fails(14), idle(0, 2)...)...), or(append(fails(3), idle(0, 13)...)...)), 16},
		{or(a, or(append(fails(14), idle(0, 2)...)...), or(append(fails(2), idle(0, 14)...)...)), 0},
		// Below a case.
		{or(a, asks(0, alt(3, ints(1), or(or(idle(1, 8)...), or(idle(1, 8)...))))), 2},
		{or(a, asks(0, alt(3, ints(1), or(or(idle(1, 8)...), or(idle(1, 9)...))))), 0},
	} {
		f := with(t, "f(x) = 1;", x.tree)
		if e := flat.Check(f); e != api.OK {
			t.Error(i, "not right:", showTree(f.Trees[0]))
			continue
		}
		made, e := flat.Join(f, 0)
		if x.kids == 0 {
			if e != api.ErrLong || showFlat(made) != "" {
				t.Error(i, e, showFlat(made))
			}
			continue
		}
		if e != api.OK || flat.Check(made) != api.OK || len(made.Trees[0].Kids) != x.kids {
			t.Error(i, e, showFlat(made))
		}
	}
}
