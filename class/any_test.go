package class_test

import (
	"math"
	"math/rand"
	"slices"
	"strconv"
	"testing"

	"swingle/api"
	"swingle/claims"
	"swingle/class"
)

// asked is what all functions are called with.
type asked struct {
	w             api.ClassWorld
	givens, goals []api.ClassPred
	goal          api.ClassPred
	proof         api.ClassDict
	m             api.ReadModule
	funs          []api.ClassFun
	t             api.Term
}

// results are those of all functions but Check: texts of what is returned, and errors.
func (a asked) results() ([]string, []api.Errno) {
	first, e1 := class.Prove(a.w, a.givens, a.goal)
	e2 := class.Verify(a.w, a.givens, a.goal, a.proof)
	normal, e3 := class.Normal(a.w, a.givens, a.goal, a.proof)
	n, e4 := class.Entails(a.w, a.givens, a.goals)
	context, e5 := class.Reduce(a.w, a.givens)
	needs, e6 := class.Needs(a.w, a.m, a.funs, a.t)
	places, e7 := class.Put(a.w, a.m, a.funs, a.t)
	return []string{showProof(first), showProof(normal), strconv.Itoa(n), showPreds(a.w.Datas, context), showPreds(a.w.Datas, needs), showPlaces(places)},
		[]api.Errno{e1, e2, e3, e4, e5, e6, e7}
}

// nothing is what results has with errors.
func nothing() []string {
	none := showProof(api.ClassDict{})
	return []string{none, none, "0", "", "", ""}
}

// good is what all functions can be called with.
func good(t *testing.T) asked {
	t.Helper()
	m := mustModule(t, more+"f(x) = x;")
	w := twelve(t)
	return asked{w, predsOf(w.Datas, "0 ?0"), predsOf(w.Datas, "0 ?0; 0 int"), predsOf(w.Datas, "0 Ph(?0)")[0], by(11, given(0)), m, funsOf(m, needing{"f", "0 ?0"}), mustGoal(t, m, "f(1)")}
}

// P4.2, P4.3, P4.6, P4.7, P0.11: what is not formed is refused wherever it is
// handed over, and then worlds that are not right.
func TestRefused(t *testing.T) {
	check := func(what string, i int, a asked, want ...api.Errno) {
		t.Helper()
		texts, errors := a.results()
		if !slices.Equal(texts, nothing()) && !slices.Equal(want, make([]api.Errno, 7)) || !slices.Equal(errors, want) {
			t.Error(what, i, errors, "want", want, texts)
		}
	}
	all := func(e api.Errno) []api.Errno { return slices.Repeat([]api.Errno{e}, 7) }
	fine := good(t)
	fine.goal, fine.proof = fine.goals[0], given(0)
	check("good", 0, fine, 0, 0, 0, 0, 0, 0, 0)
	for i, w := range badWorlds(t) {
		a := good(t)
		a.w = w
		check("world", i, a, all(api.ErrArg)...)
	}
	right := good(t).w
	notRight := worldOf(right.Datas, [][]int{{}, {0}}, "1 int")
	a := good(t)
	a.w, a.funs = notRight, nil
	check("not right", 0, a, all(api.ErrRule)...)
	a.proof = by(99)
	check("not right", 1, a, all(api.ErrRule)...)
	a.givens = predsOf(right.Datas, "2 ?0")
	check("not right", 2, a, api.ErrArg, api.ErrArg, api.ErrArg, api.ErrArg, api.ErrArg, api.ErrRule, api.ErrRule)
	a = good(t)
	a.w, a.t, a.goals = notRight, num(math.MaxInt), slices.Repeat(a.goals, 5)
	check("not right", 3, a, api.ErrRule, api.ErrRule, api.ErrRule, api.ErrArg, api.ErrRule, api.ErrArg, api.ErrArg)
	endless := arrow(integers(), integers())
	endless.Parts[1] = endless
	bad := []api.ClassPred{
		{}, {Class: 6, Type: integers()}, {Class: -1, Type: integers()}, {Class: math.MinInt, Type: integers()},
		pred(0, api.KindType{Sort: 5}), pred(0, typeVar(20)), pred(0, typeVar(-1)), pred(0, ofData(6)), pred(0, ofData(1)), pred(0, ofData(1, typeVar(20))), pred(0, endless),
		pred(0, typeOf(right.Datas, "Ph(Ph(Ph(Ph(Ph(Ph(Ph(Ph(int))))))))")), pred(0, typeOf(right.Datas, "int -> int -> int -> int -> int")),
	}
	for _, w := range []api.ClassWorld{right, notRight} {
		for i, p := range bad {
			a := good(t)
			a.w, a.goal, a.funs = w, p, nil
			a.givens, a.goals, a.m = []api.ClassPred{pred(0, integers()), p}, nil, api.ReadModule{}
			check("predicate", i, a, all(api.ErrArg)...)
			a.givens, a.goals = nil, []api.ClassPred{pred(0, integers()), p}
			_, errors := a.results()
			if errors[0] != api.ErrArg || errors[1] != api.ErrArg || errors[2] != api.ErrArg || errors[3] != api.ErrArg {
				t.Error(i, errors)
			}
		}
		a := good(t)
		a.w, a.m, a.givens = w, api.ReadModule{}, slices.Repeat(a.givens, 9)
		check("list", 0, a, all(api.ErrArg)...)
		a.givens = make([]api.ClassPred, 1<<16)
		check("list", 1, a, all(api.ErrArg)...)
	}
	eight := good(t)
	eight.givens, eight.goals = slices.Repeat(eight.givens, 8), slices.Repeat(eight.givens, 8)
	eight.goal, eight.proof = pred(0, typeOf(right.Datas, "Ph(Ph(Ph(Ph(Ph(Ph(Ph(?0)))))))")), by(11, by(11, by(11, by(11, by(11, by(11, by(11, given(7))))))))
	if _, errors := eight.results(); !slices.Equal(errors, make([]api.Errno, 7)) {
		t.Error(errors)
	}
}

// anything makes values of any kind, most of which are not formed.
type anything struct{ maker }

func (a anything) number() int {
	return []int{0, 0, 0, 1, 1, 2, 3, 4, 5, 6, 7, 20, -1, math.MaxInt, math.MinInt}[a.Intn(15)]
}

func (a anything) kinds(deep int) api.KindType {
	made := api.KindType{Sort: api.KindSort(a.Intn(6)), N: a.number()}
	for range a.Intn(3) * min(deep, 1) {
		made.Parts = append(made.Parts, a.kinds(deep-1))
	}
	return made
}

func (a anything) somePreds() []api.ClassPred {
	var list []api.ClassPred
	for range a.Intn(4) {
		list = append(list, pred(a.number(), a.kinds(1)))
	}
	return list
}

// change changes something somewhere.
func (a anything) change(x *asked) {
	switch a.Intn(10) {
	case 0:
		x.w.Above = append(x.w.Above, []int{a.number()})
	case 1:
		x.w.Insts = append(x.w.Insts, api.ClassInst{Class: a.number(), Sort: api.KindSort(a.Intn(6)), N: a.number(), Needs: a.somePreds()})
	case 2:
		if len(x.w.Insts) > 0 {
			x.w.Insts[a.Intn(len(x.w.Insts))].Needs = a.somePreds()
		}
	case 3:
		x.w.Above = x.w.Above[:a.Intn(len(x.w.Above)+1)]
	case 4:
		x.givens = a.somePreds()
	case 5:
		x.goal = pred(a.number(), a.kinds(2))
	case 6:
		x.proof = a.broken(x.proof)
	case 7:
		x.funs = append(x.funs, api.ClassFun{Fun: a.number(), Needs: a.somePreds()})
	case 8:
		x.t = node(api.TermOp(a.Intn(18)), a.number(), x.t)
	case 9:
		x.w.Datas = x.w.Datas[:a.Intn(len(x.w.Datas)+1)]
	}
}

// random is what functions can be called with; most of it is formed.
func (a anything) random(of api.ReadModule) asked {
	w := a.rightWorld()
	for len(w.Above) == 0 {
		w = a.rightWorld()
	}
	x := asked{w: w, givens: a.preds(w, 4), goals: a.preds(w, 4), goal: a.pred(w), m: of}
	x.proof, _ = a.proof(w, x.givens, x.goal)
	x.funs = []api.ClassFun{{Fun: a.Intn(2), Needs: []api.ClassPred{pred(a.Intn(len(w.Above)), typeVar(0))}}}
	x.t = a.anyTerm(of.Prog.Sig, 3)
	return x
}

// P0.11, R8: all functions end, whatever they are given, and return the same
// again, and nothing with an error but what the sections say.
func TestAnything(t *testing.T) {
	t.Parallel()
	a := anything{newMaker(t, 7)}
	of := mustModule(t, calls)
	met := map[api.Errno]int{}
	for range 1500 {
		x := a.random(of)
		for range a.Intn(4) {
			a.change(&x)
		}
		n, e := class.Check(x.w)
		texts, errors := x.results()
		again, same := x.results()
		if !slices.Equal(texts, again) || !slices.Equal(errors, same) {
			t.Fatal("two calls return different results", texts, again, errors, same)
		}
		if e != api.OK && e != api.ErrRule && e != api.ErrArg || e != api.ErrRule && n != 0 {
			t.Fatal(n, e)
		}
		for i, of := range []int{0, 2, 3, 4, 5, 6} {
			met[errors[of]]++
			if errors[of] != api.OK && texts[i] != nothing()[i] && (i != 2 || errors[of] != api.ErrNone) {
				t.Fatal("more than an error", i, texts, errors)
			}
			if e == api.ErrArg && errors[of] != e || e == api.ErrRule && errors[of] != api.ErrArg && errors[of] != e {
				t.Fatal("a world that is not right", e, errors)
			}
		}
	}
	t.Log(met)
	if met[api.OK] < 1000 || met[api.ErrArg] < 1000 || met[api.ErrRule] < 50 || met[api.ErrNone] < 300 {
		t.Error("too few of some kind", met)
	}
}

func claimPreds(m claims.Memory, list []api.ClassPred) {
	claims.List(m, list)
	for _, p := range list {
		m.Types(p.Type.Parts)
	}
}

func claimProofs(m claims.Memory, list []api.ClassDict) {
	claims.List(m, list)
	for _, d := range list {
		claimProofs(m, d.Kids)
	}
}

// freshKind returns a copy, which shares nothing.
func freshKind(t api.KindType) api.KindType {
	return api.KindType{Sort: t.Sort, N: t.N, Parts: each(t.Parts, freshKind)}
}

func freshPreds(list []api.ClassPred) []api.ClassPred {
	return each(list, func(p api.ClassPred) api.ClassPred { return pred(p.Class, freshKind(p.Type)) })
}

// R4: no argument is changed, and results share no memory with arguments, or with each other.
func TestMemory(t *testing.T) {
	t.Parallel()
	a := anything{maker{rand.New(rand.NewSource(8)), mustModule(t, more).Datas}}
	of := mustModule(t, calls)
	for range 300 {
		x := a.random(of)
		x.givens, x.goals, x.goal.Type = freshPreds(x.givens), freshPreds(x.goals), freshKind(x.goal.Type)
		mem := claims.New(t.Fatal)
		claimPreds(mem, x.givens)
		claimPreds(mem, x.goals)
		claimPreds(mem, []api.ClassPred{x.goal})
		for n := range x.w.Insts {
			x.w.Insts[n].Needs = freshPreds(x.w.Insts[n].Needs)
			claimPreds(mem, x.w.Insts[n].Needs)
		}
		x.proof = freshProof(x.proof)
		claimProofs(mem, []api.ClassDict{x.proof})
		before := x.text()
		for range 2 {
			first, _ := class.Prove(x.w, x.givens, x.goal)
			claimProofs(mem, []api.ClassDict{first})
			class.Verify(x.w, x.givens, x.goal, x.proof)
			normal, _ := class.Normal(x.w, x.givens, x.goal, x.proof)
			claimProofs(mem, []api.ClassDict{normal})
			class.Entails(x.w, x.givens, x.goals)
			context, _ := class.Reduce(x.w, x.givens)
			claimPreds(mem, context)
			needs, _ := class.Needs(x.w, x.m, x.funs, x.t)
			claimPreds(mem, needs)
			places, _ := class.Put(x.w, x.m, x.funs, x.t)
			claims.List(mem, places)
			for _, p := range places {
				claimProofs(mem, p.Dicts)
			}
			class.Check(x.w)
		}
		if x.text() != before {
			t.Fatal("an argument was changed", before, x.text())
		}
	}
	// A proof that stands in its normal form several times.
	top := topWorld(t)
	mem := claims.New(t.Fatal)
	proof := proofOf("up(3, 11(11(g(0))))")
	claimProofs(mem, []api.ClassDict{proof})
	for range 2 {
		normal, e := class.Normal(top, predsOf(top.Datas, "3 ?0"), predsOf(top.Datas, "1 C(C(?0))")[0], proof)
		if e != api.OK || countSteps(normal) != 1+3*(1+3*2) {
			t.Fatal(e, showProof(normal))
		}
		claimProofs(mem, []api.ClassDict{normal})
	}
}

func freshProof(d api.ClassDict) api.ClassDict {
	return api.ClassDict{Op: d.Op, N: d.N, Kids: each(d.Kids, freshProof)}
}

func (a asked) text() string {
	return showWorld(a.w) + showPreds(a.w.Datas, a.givens) + showPreds(a.w.Datas, a.goals) + showPred(a.w.Datas, a.goal) + showProof(a.proof) + showFuns(a.w.Datas, a.funs) + showTerm(a.t)
}
