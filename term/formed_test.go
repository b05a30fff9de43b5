package term_test

import (
	"math"
	"strings"
	"testing"

	"swingle/api"
	"swingle/term"
)

func names(first string, how int) []api.TermName {
	var l []api.TermName
	for i := range how {
		l = append(l, api.TermName{Name: first + string(rune('a'+i)), Args: i % (api.TermArgs + 1)})
	}
	return l
}

func truths() []api.TermName {
	return []api.TermName{{Name: "False"}, {Name: "True"}}
}

// P1.1: what is formed, each limit just met.
func TestCheckSigFormed(t *testing.T) {
	for i, x := range []api.TermSig{
		sig(),
		{Cons: truths()},
		{Cons: truths(), Funs: []api.TermName{}},
		{Cons: append(truths(), names("C", api.TermCons-2)...), Funs: names("f", api.TermFuns)},
		{Cons: append(truths(), api.TermName{Name: "ABYZabyz", Args: 4})},
		{Cons: append(truths(), api.TermName{Name: "a"}, api.TermName{Name: "Z", Args: 0})},
		{Cons: append(truths(), api.TermName{Name: "true"}), Funs: []api.TermName{{Name: "false"}, {Name: "z", Args: 4}}},
	} {
		if e := term.CheckSig(x); e != api.OK {
			t.Error(i, e)
		}
		if e := term.Check(x, v(0)); e != api.OK {
			t.Error(i, e)
		}
	}
}

// P1.1: what is not formed, each limit just passed.
func TestCheckSigWrong(t *testing.T) {
	wrong := []api.TermSig{
		{},
		{Cons: []api.TermName{}, Funs: []api.TermName{}},
		{Cons: truths()[:1]},
		{Cons: truths()[1:]},
		{Cons: []api.TermName{{Name: "True"}, {Name: "False"}}},
		{Cons: []api.TermName{{Name: "False", Args: 1}, {Name: "True"}}},
		{Cons: []api.TermName{{Name: "False"}, {Name: "True", Args: 1}}},
		{Cons: []api.TermName{{Name: "False"}, {Name: "Truth"}}},
		{Cons: []api.TermName{{Name: "false"}, {Name: "True"}}},
		{Cons: append(truths(), names("C", api.TermCons-1)...)},
		{Cons: truths(), Funs: names("f", api.TermFuns+1)},
		{Cons: truths(), Funs: make([]api.TermName, 1<<20)},
		{Cons: make([]api.TermName, 1<<20)},
		{Cons: append(truths(), api.TermName{Name: "A"}, api.TermName{Name: "A", Args: 1})},
		{Cons: truths(), Funs: []api.TermName{{Name: "f"}, {Name: "g"}, {Name: "f"}}},
		{Cons: append(truths(), api.TermName{Name: "f"}), Funs: []api.TermName{{Name: "f"}}},
		{Cons: truths(), Funs: []api.TermName{{Name: "True"}}},
	}
	for _, args := range []int{-1, api.TermArgs + 1, math.MinInt, math.MaxInt} {
		wrong = append(wrong, api.TermSig{Cons: append(truths(), api.TermName{Name: "A", Args: args})})
		wrong = append(wrong, api.TermSig{Cons: truths(), Funs: []api.TermName{{Name: "f", Args: args}}})
	}
	for _, name := range []string{"", "abcdefghi", "a b", " a", "a1", "1", "_", "a@", "a[", "a`", "a{", "\xff", "a\xc3", "é", "ａ", "a\x00", strings.Repeat("a", 1<<20)} {
		wrong = append(wrong, api.TermSig{Cons: append(truths(), api.TermName{Name: name})})
		wrong = append(wrong, api.TermSig{Cons: truths(), Funs: []api.TermName{{Name: name}}})
	}
	for i, x := range wrong {
		if e := term.CheckSig(x); e != api.ErrArg {
			t.Error(i, e)
		}
		if e := term.Check(x, v(0)); e != api.ErrArg {
			t.Error(i, e)
		}
	}
}

// P1.1: the row of the chapter's examples.
func TestCheckExamples(t *testing.T) {
	for i, x := range []struct {
		t    api.Term
		want api.Errno
	}{
		{cons(v(0), v(1)), api.OK},
		{node(api.TermCon, 5, v(0)), api.ErrArg},
		{part(null()), api.OK},
		{node(api.TermFun, 0, null()), api.ErrArg},
		{node(api.TermPart, 1), api.ErrArg},
	} {
		if e := term.Check(sig(), x.t); e != x.want {
			t.Error(i, e)
		}
	}
}

func twos() []api.TermOp {
	return []api.TermOp{api.TermApply, api.TermOr, api.TermWhen, api.TermBoth, api.TermUnify, api.TermSame, api.TermAdd, api.TermSub, api.TermLess}
}

// P1.1: each Op, with what it must have.
func TestCheckFormed(t *testing.T) {
	good := []api.Term{
		v(0), v(api.TermVars - 1), num(0), num(api.TermMost), num(-api.TermMost),
		node(api.TermCon, 0), node(api.TermCon, 1), s(v(3)), four(v(0), v(0), v(1), z()),
		node(api.TermFun, 1), node(api.TermFun, 0, v(0), num(1)), part(), part(v(1)),
		let(0, v(0), v(0)), let(api.TermVars-1, v(0), v(1)),
		{Op: api.TermVar, N: 1, Kids: []api.Term{}},
		tower(api.TermDepth-1, z()),
	}
	for _, op := range twos() {
		good = append(good, node(op, 0, v(0), v(0)), node(op, 0, part(), node(op, 0, num(1), z())))
	}
	for i, x := range good {
		if e := term.Check(sig(), x); e != api.OK {
			t.Error(i, x, e)
		}
	}
}

// P1.1: each Op, with what it must not have.
func TestCheckWrong(t *testing.T) {
	wrong := []api.Term{
		{}, v(-1), v(api.TermVars), v(math.MinInt), v(math.MaxInt), node(api.TermVar, 0, v(0)),
		num(api.TermMost + 1), num(-api.TermMost - 1), num(math.MinInt), num(math.MaxInt), node(api.TermInt, 0, num(0)),
		node(api.TermCon, -1), node(api.TermCon, 7), node(api.TermCon, math.MaxInt), node(api.TermCon, 2, z()), node(api.TermCon, 3), node(api.TermCon, 5, z()), node(api.TermCon, 5, z(), z(), z()),
		node(api.TermFun, -1), node(api.TermFun, 2), node(api.TermFun, math.MinInt), node(api.TermFun, 0), node(api.TermFun, 0, z()), node(api.TermFun, 0, z(), z(), z()), node(api.TermFun, 1, z()),
		node(api.TermPart, -1), node(api.TermPart, 1), node(api.TermPart, 2), part(z(), z()), part(z(), z(), z()),
		let(-1, v(0), v(0)), let(api.TermVars, v(0), v(0)), node(api.TermLet, 0), node(api.TermLet, 0, v(0)), node(api.TermLet, 0, v(0), v(0), v(0)),
		node(api.TermBot, 0), node(api.TermBot+1, 0), node(0, 0), node(-1, 0), node(99, 0), node(math.MinInt, 0, v(0), v(0)), node(math.MaxInt, 0, v(0), v(0)),
		s(node(api.TermBot, 0)), cons(z(), v(api.TermVars)), let(0, num(api.TermMost+1), z()),
		tower(api.TermDepth, z()),
		cons(z(), tower(api.TermDepth-1, z())),
		node(api.TermCon, 5, make([]api.Term, 1<<20)...),
	}
	for _, op := range twos() {
		wrong = append(wrong, node(op, 0), node(op, 0, v(0)), node(op, 0, v(0), v(0), v(0)), node(op, 1, v(0), v(0)), node(op, -1, v(0), v(0)))
	}
	for i, x := range wrong {
		if e := term.Check(sig(), x); e != api.ErrArg {
			t.Error(i, x.Op, x.N, e)
		}
	}
}

// P1.1: an expression has at most TermNodes nodes; these have just as many, and one more.
func TestCheckNodes(t *testing.T) {
	with := func(last api.Term) api.Term {
		return four(full(3, z()), full(3, z()), cons(z(), cons(z(), cons(z(), z()))), last)
	}
	if met := with(s(z())); term.Check(sig(), met) != api.OK || count(met) != api.TermNodes {
		t.Error(count(met))
	}
	if passed := with(s(s(z()))); term.Check(sig(), passed) != api.ErrArg {
		t.Error(count(passed))
	}
}

type valued struct {
	t                      api.Term
	value, ground, pattern bool
}

// P1.1: IsValue and IsPattern, the chapter's examples first.
func TestValues(t *testing.T) {
	table := []valued{
		{s(v(0)), true, false, true},
		{s(z()), true, true, true},
		{node(api.TermFun, 0, null(), null()), false, false, false},
		{cons(v(0), v(1)), true, false, true},
		{cons(v(0), v(0)), true, false, false},
		{num(5), true, true, false},
		{v(7), true, false, true},
		{part(), true, true, false},
		{part(v(1)), true, false, false},
		{cons(z(), part(z())), true, true, false},
		{cons(num(1), v(0)), true, false, false},
		{cons(cons(v(1), s(v(0))), s(v(1))), true, false, false},
		{node(api.TermFun, 1), false, false, false},
		{cons(z(), node(api.TermFun, 1)), false, false, false},
		{part(node(api.TermFun, 1)), false, false, false},
		{let(0, z(), z()), false, false, false},
	}
	for _, op := range twos() {
		table = append(table, valued{node(op, 0, z(), z()), false, false, false}, valued{s(node(op, 0, z(), v(0))), false, false, false})
	}
	for i, x := range table {
		value, ground, e := term.IsValue(sig(), x.t)
		pattern, f := term.IsPattern(sig(), x.t)
		if e != api.OK || f != api.OK || value != x.value || ground != x.ground || pattern != x.pattern {
			t.Error(i, value, ground, pattern, e, f)
		}
	}
}

// P1.1: with an error, nothing else is said.
func TestValuesWrong(t *testing.T) {
	for i, x := range []api.Term{{}, v(20), node(api.TermBot, 0), cons(z(), num(api.TermMost+1))} {
		if value, ground, e := term.IsValue(sig(), x); e != api.ErrArg || value || ground {
			t.Error(i, value, ground, e)
		}
		if pattern, e := term.IsPattern(sig(), x); e != api.ErrArg || pattern {
			t.Error(i, pattern, e)
		}
	}
	if value, ground, e := term.IsValue(api.TermSig{}, z()); e != api.ErrArg || value || ground {
		t.Error(value, ground, e)
	}
	if pattern, e := term.IsPattern(api.TermSig{}, z()); e != api.ErrArg || pattern {
		t.Error(pattern, e)
	}
}
