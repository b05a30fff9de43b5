package rule_test

import (
	"testing"

	"swingle/api"
	"swingle/rule"
	"swingle/sample"
)

func checkRules(t *testing.T, p api.RuleProg, fun int, want string) {
	t.Helper()
	list, e := rule.Rules(p, fun)
	if got := showNumbers(list); e != api.OK || got != want {
		t.Error(fun, got, e, "want", want)
	}
}

func checkFree(t *testing.T, p api.RuleProg, n int, want string) {
	t.Helper()
	list, e := rule.Free(p, n)
	if got := showNumbers(list); e != api.OK || got != want {
		t.Error(n, got, e, "want", want)
	}
}

// P5.1: the rules of a function are in order, those of other functions between them.
func TestRules(t *testing.T) {
	p := progOf(t, sample.Rules)
	if e := rule.Check(p); e != api.OK {
		t.Error(e)
	}
	for fun, want := range []string{"0 1", "2 3 4", "5 6", "7 8"} {
		checkRules(t, p, fun, want)
	}
	p = progOf(t, "f(x) = 1; g = 1; f(Z) = 2; h(x, y) = 1; g = 2; f(x) = 1;")
	p.Sig.Funs = append(p.Sig.Funs, api.TermName{Name: "last", Args: 2})
	for fun, want := range []string{"0 2 5", "1 4", "3", ""} {
		checkRules(t, p, fun, want)
	}
	p.Rules = nil
	checkRules(t, p, 0, "")
	if e := rule.Check(p); e != api.OK {
		t.Error(e)
	}
}

// P5.1: free variables are those of no pattern and no let, also if they stand nowhere.
func TestFree(t *testing.T) {
	p := progOf(t, sample.Rules)
	for n, want := range []string{"", "", "", "", "", "", "", "", "1"} {
		checkFree(t, p, n, want)
	}
	p.Rules = []api.RuleRule{
		{Fun: 2, Rhs: num(1)},
		{Fun: 2, Rhs: num(1), Vars: 3},
		{Fun: 2, Rhs: num(1), Vars: 20},
		{Fun: 2, Rhs: let(1, v(0), or(v(1), v(2))), Vars: 4},
		{Fun: 2, Rhs: or(let(2, num(1), let(0, num(2), num(3))), let(3, v(1), v(4))), Vars: 5},
		{Fun: 3, Pats: terms(con(5, v(4), v(1))), Rhs: or(v(4), v(2)), Vars: 6},
		{Fun: 3, Pats: terms(v(3)), Rhs: let(0, v(3), v(2)), Vars: 4},
		{Fun: 0, Pats: terms(con(6, v(2), con(3, v(5)), v(0)), v(7)), Rhs: let(19, num(1), num(1)), Vars: 20},
	}
	for n, want := range []string{"", "0 1 2", "0 1 2 3 4 5 6 7 8 9 10 11 12 13 14 15 16 17 18 19", "0 2 3", "1 4", "0 2 3 5", "1 2", "1 3 4 6 8 9 10 11 12 13 14 15 16 17 18"} {
		checkFree(t, p, n, want)
	}
}

func checkMatches(t *testing.T, p api.RuleProg, fun int, want string, sources ...string) {
	t.Helper()
	list, e := rule.Matches(p, fun, valuesOf(t, p, sources...))
	if got := showNumbers(list); e != api.OK || got != want {
		t.Error(fun, sources, got, e, "want", want)
	}
}

// P5.3
func TestMatches(t *testing.T) {
	p := progOf(t, sample.Rules)
	checkMatches(t, p, 0, "0", "Z", "Nil")
	checkMatches(t, p, 0, "1", "S(x)", "x")
	checkMatches(t, p, 0, "", "x", "Z")
	checkMatches(t, p, 0, "", "True", "Z")
	checkMatches(t, p, 0, "", "2", "Z")
	checkMatches(t, p, 0, "", "~3", "Z")
	checkMatches(t, p, 0, "", "add(Z)", "Z")
	checkMatches(t, p, 0, "0", "Z", "add(Z)")
	checkMatches(t, p, 0, "0", "Z", "5")
	checkMatches(t, p, 1, "2 3", "True", "True")
	checkMatches(t, p, 1, "", "x", "False")
	checkMatches(t, p, 1, "3", "x", "True")
	checkMatches(t, p, 1, "2", "True", "x")
	checkMatches(t, p, 1, "4", "False", "False")
	checkMatches(t, p, 1, "3", "False", "True")
	checkMatches(t, p, 1, "", "False", "x")
	checkMatches(t, p, 2, "5 6")
	checkMatches(t, p, 3, "7 8", "Cons(x, x)")
	checkMatches(t, p, 3, "8", "Nil")
	checkMatches(t, p, 3, "8", "add")
	p = progOf(t, "f(Tri(Z, x, S(y)), S(S(z))) = 1; g = 1; f(Tri(x, S(Z), y), z) = 2; f(x, S(y)) = 3;")
	checkMatches(t, p, 0, "0 3", "Tri(Z, Z, S(Z))", "S(S(Z))")
	checkMatches(t, p, 0, "0 2 3", "Tri(Z, S(Z), S(a))", "S(S(a))")
	checkMatches(t, p, 0, "2 3", "Tri(a, S(Z), S(a))", "S(S(a))")
	checkMatches(t, p, 0, "2", "Tri(Z, S(Z), S(a))", "Z")
	checkMatches(t, p, 0, "3", "Tri(Z, a, S(a))", "S(a)")
	checkMatches(t, p, 0, "", "Tri(Z, S(a), b)", "7")
	checkMatches(t, p, 0, "3", "Tri(Z, S(2), 1)", "S(f(1))")
	p.Sig.Funs = append(p.Sig.Funs, api.TermName{Name: "last", Args: 1})
	checkMatches(t, p, 2, "", "Z")
}

func checkApply(t *testing.T, p api.RuleProg, n int, want string, why api.Errno, sources ...string) {
	t.Helper()
	list, e := rule.Apply(p, n, valuesOf(t, p, sources...))
	if got := showBinds(p.Sig, list); e != why || got != want {
		t.Error(n, sources, got, e, "want", want, why)
	}
}

// P5.3: what is put in is a binding list, without the free variables.
func TestApply(t *testing.T) {
	p := progOf(t, sample.Rules)
	checkApply(t, p, 1, "v0 = S(Z), v1 = Nil", api.OK, "S(S(Z))", "Nil")
	checkApply(t, p, 1, "v0 = Z, v1 = Nil", api.OK, "S(Z)", "Nil")
	checkApply(t, p, 1, "", api.ErrNone, "Z", "Nil")
	checkApply(t, p, 1, "", api.ErrNone, "x", "Nil")
	checkApply(t, p, 1, "", api.ErrNone, "1", "Nil")
	checkApply(t, p, 4, "", api.OK, "False", "False")
	checkApply(t, p, 4, "", api.ErrNone, "False", "True")
	checkApply(t, p, 4, "", api.ErrNone, "True", "False")
	checkApply(t, p, 3, "v0 = v0", api.OK, "x", "True")
	checkApply(t, p, 3, "", api.ErrNone, "x", "x")
	checkApply(t, p, 5, "", api.OK)
	checkApply(t, p, 6, "", api.OK)
	checkApply(t, p, 7, "v0 = v0, v1 = Cons(v0, v1)", api.OK, "Cons(a, Cons(a, b))")
	checkApply(t, p, 8, "v0 = 5:0(Z)", api.OK, "add(Z)")
	p.Rules = []api.RuleRule{{Fun: 0, Pats: terms(con(6, v(5), con(3, v(19)), v(1)), con(5, v(3), v(0))), Rhs: v(2), Vars: 20}}
	checkApply(t, p, 0, "", api.ErrNone, "Tri(S(a), b, Cons(1, a))", "Cons(2, Nil)")
	checkApply(t, p, 0, "v0 = Nil, v1 = Cons(1, v0), v3 = 2, v5 = S(v0), v19 = Z", api.OK, "Tri(S(a), S(Z), Cons(1, a))", "Cons(2, Nil)")
}
