package logic_test

import (
	"math"
	"slices"
	"strconv"
	"testing"

	"swingle/api"
	"swingle/claims"
	"swingle/logic"
)

// anything makes arguments of any kind, most of which are not as defined.
type anything struct{ *maker }

func (a anything) number() int {
	return []int{0, 0, 0, 1, 1, 2, 3, 4, 5, 6, 7, 8, 20, 199, 200, -1, math.MaxInt, math.MinInt}[a.Intn(18)]
}

func (a anything) term(deep int) api.Term {
	made := node(api.TermOp(a.Intn(19)-1), a.number())
	for range a.Intn(4) * min(deep, 1) {
		made.Kids = append(made.Kids, a.term(deep-1))
	}
	return made
}

func (a anything) terms() []api.Term {
	var list []api.Term
	for range a.Intn(4) {
		list = append(list, a.term(2))
	}
	return list
}

func (a anything) proof(deep int) api.LogicProof {
	made := withNum(step(api.LogicRule(a.Intn(18)-1), a.term(1)), a.number())
	made.Binds = a.terms()
	for range a.Intn(4) * min(deep, 1) {
		made.Kids = append(made.Kids, a.proof(deep-1))
	}
	return made
}

// spoil changes something somewhere.
func (a anything) spoil(x *asked) {
	list := steps(&x.f)
	at := list[a.Intn(len(list))]
	switch a.Intn(12) {
	case 0:
		x.p.Rules = append(x.p.Rules, api.RuleRule{Fun: a.number(), Pats: a.terms(), Rhs: a.term(2), Vars: a.number()})
	case 1:
		x.p.Rules = x.p.Rules[:a.Intn(len(x.p.Rules)+1)]
	case 2:
		x.p.Sig.Funs = x.p.Sig.Funs[:a.Intn(len(x.p.Sig.Funs)+1)]
	case 3:
		x.env = a.terms()
	case 4:
		x.e = a.term(2)
	case 5:
		x.value = a.term(2)
	case 6:
		x.binds = append(x.binds, bind(a.number(), a.term(1)))
	case 7:
		*at = a.proof(2)
	case 8:
		at.Num = a.number()
	case 9:
		at.Rule = api.LogicRule(a.Intn(18) - 1)
	case 10:
		at.Value = a.term(1)
	case 11:
		at.Kids = append(at.Kids, a.proof(0))
	}
}

// random is what all functions can be called with.
func (a anything) random() asked {
	x := a.again()
	return asked{prog2(a.RuleProg), x.env, x.e, x.f, cut(a.Rand, x.f.Value, 3), a.bindings()}
}

// prog2 is a copy of a program, whose lists can be changed.
func prog2(p api.RuleProg) api.RuleProg {
	return api.RuleProg{Sig: api.TermSig{Cons: slices.Clone(p.Sig.Cons), Funs: slices.Clone(p.Sig.Funs)}, Rules: slices.Clone(p.Rules)}
}

// all are texts of what all functions return, and their errors.
func (a asked) all() ([]string, []api.Errno) {
	texts, errors := a.results()
	s := a.p.Sig
	total, ground, e0 := logic.CheckVal(s, a.value)
	below, e1 := logic.Below(s, a.value, a.f.Value)
	join, e2 := logic.Join(s, a.e, a.value)
	more := []string{strconv.FormatBool(total || ground), strconv.FormatBool(below), showTerm(join)}
	return append(texts, more...), append(errors, e0, e1, e2)
}

// P0.11, R2, R8: all functions end, whatever they are given, and return the
// same again, and nothing with an error.
func TestAnything(t *testing.T) {
	t.Parallel()
	a := anything{newMaker(t, 8)}
	met := map[api.Errno]int{}
	empty := append(nothing(), "false", "false", showTerm(api.Term{}))
	for range 4000 {
		x := a.random()
		for range a.Intn(4) {
			a.spoil(&x)
		}
		texts, errors := x.all()
		again, same := x.all()
		if !slices.Equal(texts, again) || !slices.Equal(errors, same) {
			t.Fatal("two calls return different results", texts, again, errors, same)
		}
		for i, e := range errors {
			met[e]++
			if e != api.OK && texts[i] != empty[i] {
				t.Fatal("more than an error", i, texts, errors)
			}
			if e == api.ErrRule && i > 1 || e == api.ErrNone && i != 1 && i != 6 || e == api.ErrLong && i != 2 && i != 6 || e < api.OK || e > api.ErrRule {
				t.Fatal(i, errors)
			}
		}
	}
	t.Log(met)
	if met[api.OK] < 5000 || met[api.ErrArg] < 5000 || met[api.ErrNone] < 20 || met[api.ErrRule] < 300 {
		t.Error("too few of some kind", met)
	}
}

func claimProofs(m claims.Memory, list []api.LogicProof) {
	claims.List(m, list)
	for _, f := range list {
		m.Terms(f.Value.Kids)
		m.Terms(f.Binds)
		claimProofs(m, f.Kids)
	}
}

func (a asked) text() string {
	text := showTerms(a.env) + showTerm(a.e) + showProof(a.f) + showTerm(a.value)
	for _, b := range a.binds {
		text += showNumbers([]int{b.Var}) + showTerm(b.Term)
	}
	for _, r := range a.p.Rules {
		text += showTerms(r.Pats) + showTerm(r.Rhs)
	}
	return text
}

// R4: no argument is changed, and results share no memory with arguments, or with each other.
func TestMemory(t *testing.T) {
	t.Parallel()
	a := anything{newMaker(t, 9)}
	for range 500 {
		x := a.random()
		mem := claims.New(t.Fatal)
		x.env, x.e, x.value, x.f = freshTerms(x.env), freshTerm(x.e), freshTerm(x.value), fresh(x.f)
		for i := range x.binds {
			x.binds[i].Term = freshTerm(x.binds[i].Term)
			mem.Terms(x.binds[i].Term.Kids)
		}
		mem.Terms(x.env)
		mem.Terms(x.e.Kids)
		mem.Terms(x.value.Kids)
		claimProofs(mem, proofs(x.f))
		before := x.text()
		for range 2 {
			value, _ := logic.Accept(x.p, x.env, x.e, x.f)
			mem.Terms(value.Kids)
			less, _ := logic.Lower(x.p, x.env, x.e, x.f, x.value)
			claimProofs(mem, proofs(less))
			whole, _ := logic.Lower(x.p, x.env, x.e, x.f, x.f.Value)
			claimProofs(mem, proofs(whole))
			put, _ := logic.Put(x.p, x.f, x.binds)
			claimProofs(mem, proofs(put))
			rules, _, _ := logic.Calls(x.p, x.f)
			claims.List(mem, rules)
			for _, other := range append(slices.Clone(x.env), x.value, bottom()) {
				join, _ := logic.Join(x.p.Sig, x.f.Value, other)
				mem.Terms(join.Kids)
			}
		}
		if x.text() != before {
			t.Fatal("an argument was changed", before, x.text())
		}
	}
}

// R4: also where lists of arguments have room behind their ends, nothing is written there.
func TestRoom(t *testing.T) {
	p := progOf(t, "data Nat = Z | S(Nat); f(a, b, c, d) = c;")
	room := append(make([]api.Term, 0, 4), num(1), num(2))
	held := part(0, room...)
	env := append(make([]api.Term, 0, 4), held)
	e := node(api.TermLet, 2, num(5), node(api.TermApply, 0, v(0), v(2)))
	apply := step(api.LogicApply, part(0, num(1), num(2), num(5)), is(held), is(num(5)))
	f := through(api.LogicLet, isNum(5), apply)
	checkAccept(t, p, env, e, f, api.OK)
	less := part(0, num(1), bottom(), num(5))
	made, why := logic.Lower(p, env, e, f, less)
	if why != api.OK || !equal(made.Value, less) {
		t.Error(why, showProof(made))
	}
	for _, x := range append(room[2:4], env[1:4]...) {
		if !equal(x, api.Term{}) {
			t.Error("something was written", showTerm(x))
		}
	}
}

// withEmpty is an equal term, whose lists are not nil.
func withEmpty(x api.Term) api.Term {
	made := api.Term{Op: x.Op, N: x.N, Kids: []api.Term{}}
	for _, k := range x.Kids {
		made.Kids = append(made.Kids, withEmpty(k))
	}
	return made
}

// R3: nil and empty lists are the same.
func TestEmptyLists(t *testing.T) {
	t.Parallel()
	a := anything{newMaker(t, 10)}
	for range 300 {
		x := a.random()
		y := x
		y.e, y.value, y.f = withEmpty(x.e), withEmpty(x.value), fresh(x.f)
		y.env, y.binds = []api.Term{}, append([]api.TermBind{}, x.binds...)
		for _, value := range x.env {
			y.env = append(y.env, withEmpty(value))
		}
		for _, f := range steps(&y.f) {
			f.Value, f.Binds, f.Kids = withEmpty(f.Value), append([]api.Term{}, f.Binds...), append([]api.LogicProof{}, f.Kids...)
		}
		texts, errors := x.all()
		others, same := y.all()
		if !slices.Equal(texts, others) || !slices.Equal(errors, same) {
			t.Fatal(texts, others, errors, same)
		}
	}
}
