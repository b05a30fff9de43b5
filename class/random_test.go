package class_test

import (
	"math/rand"
	"slices"
	"strings"
	"testing"

	"swingle/api"
	"swingle/class"
)

// maker makes worlds, predicates and proofs.
type maker struct {
	*rand.Rand
	datas []api.KindData
}

func newMaker(t *testing.T, seed int64) maker {
	t.Helper()
	return maker{rand.New(rand.NewSource(seed)), mustModule(t, more).Datas}
}

// some returns a few of the numbers less than n, increasing.
func (m maker) some(n, most int) []int {
	var list []int
	for range m.Intn(most + 1) {
		if n > 0 {
			list = append(list, m.Intn(n))
		}
	}
	slices.Sort(list)
	return slices.Compact(list)
}

// needs are predicates of so many type variables.
func (m maker) needs(classes, vars int) []api.ClassPred {
	var list []api.ClassPred
	for _, n := range m.some(classes*vars, 3) {
		list = append(list, pred(n/vars, typeVar(n%vars)))
	}
	return list
}

// inst adds an instance, if there is room, and none with this head.
func (m maker) inst(w *api.ClassWorld, class int, sort api.KindSort, n int) {
	i := api.ClassInst{Class: class, Sort: sort, N: n}
	same := func(x api.ClassInst) bool { return x.Class == class && x.Sort == sort && x.N == n }
	if len(w.Insts) >= 12 || slices.ContainsFunc(w.Insts, same) {
		return
	}
	i.Needs = m.needs(len(w.Above), len(refHead(*w, i).Parts))
	w.Insts = append(w.Insts, i)
}

// world returns one that is formed; few of them are right.
func (m maker) world() api.ClassWorld {
	w := api.ClassWorld{Datas: m.datas}
	for c := range m.Intn(7) {
		w.Above = append(w.Above, m.some(c, 2))
	}
	for range m.Intn(40) * min(1, len(w.Above)) {
		class := m.Intn(len(w.Above))
		switch pick := m.Intn(8); pick {
		case 0:
			m.inst(&w, class, api.KindInt, 0)
		case 1:
			m.inst(&w, class, api.KindFun, 0)
		default:
			m.inst(&w, class, api.KindOfData, max(0, pick-2))
		}
	}
	return w
}

// rightWorld returns a world that is right.
func (m maker) rightWorld() api.ClassWorld {
	w := m.world()
	for n := refCovered(w); n >= 0; n = refCovered(w) {
		m.repair(&w, n)
	}
	return w
}

// repair changes something at an instance that is not covered.
func (m maker) repair(w *api.ClassWorld, n int) {
	i := w.Insts[n]
	switch m.Intn(4) {
	case 0:
		w.Insts = slices.Delete(w.Insts, n, n+1)
	case 1:
		w.Insts[n].Needs = m.needs(len(w.Above), len(refHead(*w, i).Parts))
	default:
		above := w.Above[i.Class]
		class := above[m.Intn(len(above))]
		w.Insts = slices.DeleteFunc(w.Insts, func(x api.ClassInst) bool {
			return x.Class == class && x.Sort == i.Sort && x.N == i.N && m.Intn(2) == 0
		})
		m.inst(w, class, i.Sort, i.N)
	}
}

// kind returns a type of at most so many nodes.
func (m maker) kind(nodes, vars int) api.KindType {
	n := m.Intn(len(m.datas) + 3)
	var made api.KindType
	switch {
	case n < 2 || nodes < 4:
		return []api.KindType{typeVar(m.Intn(vars)), typeVar(m.Intn(vars)), integers(), ofData(0), ofData(3)}[m.Intn(5)]
	case n == 2:
		return arrow(m.kind((nodes-1)/2, vars), m.kind((nodes-1)/2, vars))
	}
	made = ofData(n - 3)
	for range m.datas[n-3].Params {
		made.Parts = append(made.Parts, m.kind((nodes-1)/m.datas[n-3].Params, vars))
	}
	return made
}

// inClass returns a type of at most so many nodes; most are in a class, if type variables are.
func (m maker) inClass(w api.ClassWorld, class, nodes int) api.KindType {
	i := api.ClassInst{}
	for _, n := range m.Perm(len(w.Insts)) {
		tall := len(refHead(w, w.Insts[n]).Parts) > 0
		if w.Insts[n].Class == class && (tall || i.Sort == 0) && m.Intn(12) > 0 {
			i = w.Insts[n]
		}
	}
	parts := len(refHead(w, i).Parts)
	if i.Sort == 0 || nodes <= parts || m.Intn(12) == 0 {
		return typeVar(m.Intn(3))
	}
	made := api.KindType{Sort: i.Sort, N: i.N}
	for v := range parts {
		of := class
		for _, need := range i.Needs {
			if need.Type.N == v {
				of = need.Class
			}
		}
		made.Parts = append(made.Parts, m.inClass(w, of, (nodes-1)/parts))
	}
	return made
}

// preds returns predicates: of type variables, of anything, and such that follow from others.
func (m maker) preds(w api.ClassWorld, most int) []api.ClassPred {
	var list []api.ClassPred
	for range m.Intn(most+1) * min(1, len(w.Above)) {
		list = append(list, m.pred(w))
	}
	return list
}

func (m maker) pred(w api.ClassWorld) api.ClassPred {
	class := m.Intn(len(w.Above))
	switch m.Intn(12) {
	case 0:
		return pred(class, m.kind(8, 3))
	case 1, 2, 3:
		return pred(class, typeVar(m.Intn(3)))
	}
	return pred(class, m.inClass(w, class, 8))
}

// proof returns a proof of a predicate, if it comes upon one: any of its steps is taken.
func (m maker) proof(w api.ClassWorld, givens []api.ClassPred, goal api.ClassPred) (api.ClassDict, bool) {
	var ways []func() (api.ClassDict, bool)
	for n, g := range givens {
		if samePred(g, goal) {
			ways = append(ways, func() (api.ClassDict, bool) { return given(n), true })
		}
	}
	for c, above := range w.Above {
		if slices.Contains(above, goal.Class) {
			ways = append(ways, func() (api.ClassDict, bool) {
				kid, ok := m.proof(w, givens, pred(c, goal.Type))
				return up(c, kid), ok
			})
		}
	}
	for n, i := range w.Insts {
		if i.Class == goal.Class && sameType(put(refHead(w, i), goal.Type.Parts), goal.Type) {
			ways = append(ways, func() (api.ClassDict, bool) {
				made := by(n)
				for _, need := range i.Needs {
					kid, ok := m.proof(w, givens, putPred(need, goal.Type.Parts))
					if !ok {
						return kid, false
					}
					made.Kids = append(made.Kids, kid)
				}
				return made, true
			})
		}
	}
	for _, n := range m.Perm(len(ways)) {
		if made, ok := ways[n](); ok {
			return made, true
		}
	}
	return api.ClassDict{}, false
}

// broken changes something in a proof.
func (m maker) broken(d api.ClassDict) api.ClassDict {
	made := api.ClassDict{Op: d.Op, N: d.N, Kids: slices.Clone(d.Kids)}
	if len(d.Kids) > 0 && m.Intn(3) > 0 {
		n := m.Intn(len(d.Kids))
		made.Kids[n] = m.broken(d.Kids[n])
		return made
	}
	switch m.Intn(5) {
	case 0:
		made.Op = api.ClassOp(m.Intn(6) - 1)
	case 1:
		made.N = m.Intn(15) - 1
	case 2:
		made.Kids = append(made.Kids, given(0))
	case 3:
		made.Kids = made.Kids[:len(made.Kids)*m.Intn(2)]
	case 4:
		return up(m.Intn(7), d)
	}
	return made
}

// P4.1: random worlds, most of which are not right.
func TestRandomCheck(t *testing.T) {
	t.Parallel()
	m := newMaker(t, 1)
	met := map[api.Errno]int{}
	later := 0
	for range 20000 {
		w := m.world()
		for range m.Intn(4) {
			if n := refCovered(w); n >= 0 {
				m.repair(&w, n)
			}
		}
		want, wantError := refCovered(w), api.ErrRule
		if want < 0 {
			want, wantError = 0, api.OK
		}
		if n, e := class.Check(w); n != want || e != wantError {
			t.Fatal(n, e, "want", want, wantError, showWorld(w))
		}
		met[wantError]++
		if want > 0 {
			later++
		}
	}
	t.Log(met, later)
	if met[api.OK] < 2000 || met[api.ErrRule] < 2000 || later < 1000 {
		t.Error("too few of some kind", met, later)
	}
}

// P4.2, P4.3, P4.4: proofs of random predicates are what the definitions say.
func TestRandomProofs(t *testing.T) {
	t.Parallel()
	m := newMaker(t, 2)
	met, seen := map[api.Errno]int{}, map[string]int{}
	for range 4000 {
		w := m.rightWorld()
		if len(w.Above) == 0 {
			continue
		}
		for range 8 {
			givens, goal := m.preds(w, 3), m.pred(w)
			if enough, ok := refDown(w, []api.ClassPred{goal}); ok && len(enough) <= 5 && m.Intn(3) > 0 {
				givens = append(givens, enough...)
			}
			met[checkProve(t, w, givens, goal)]++
			proof, ok := m.proof(w, givens, goal)
			if _, follows := refFirst(w, givens, goal); ok != follows {
				t.Fatal("a proof, and no first proof", showProof(proof), showPred(w.Datas, goal), showWorld(w))
			}
			if !ok || m.Intn(3) == 0 {
				proof = m.broken(proof)
			}
			for range m.Intn(2) {
				proof = m.broken(proof)
			}
			checkProof(t, w, givens, goal, proof, seen)
		}
	}
	t.Log(met, seen)
	if met[api.OK] < 3000 || met[api.ErrNone] < 3000 || seen["proof"] < 3000 || seen["none"] < 3000 || seen["changed"] < 300 || seen["big"] < 150 {
		t.Error("too few of some kind", met, seen)
	}
}

// checkProve compares Prove with the first proof by its definition.
func checkProve(t *testing.T, w api.ClassWorld, givens []api.ClassPred, goal api.ClassPred) api.Errno {
	t.Helper()
	want, ok := refFirst(w, givens, goal)
	wantError := api.OK
	switch {
	case !ok:
		want, wantError = api.ClassDict{}, api.ErrNone
	case countSteps(want) > 200:
		want, wantError = api.ClassDict{}, api.ErrLong
	}
	got, e := class.Prove(w, givens, goal)
	if e != wantError || showProof(got) != showProof(want) {
		t.Fatal(e, showProof(got), "want", wantError, showProof(want), showPred(w.Datas, goal), "if", showPreds(w.Datas, givens), showWorld(w))
	}
	if e == api.OK && class.Verify(w, givens, goal, got) != api.OK {
		t.Fatal("is not verified:", showProof(got))
	}
	return e
}

// checkProof compares Verify and Normal with their definitions, for something that can be a proof.
func checkProof(t *testing.T, w api.ClassWorld, givens []api.ClassPred, goal api.ClassPred, d api.ClassDict, seen map[string]int) {
	t.Helper()
	is := refIsProof(w, givens, goal, d)
	e := class.Verify(w, givens, goal, d)
	got, f := class.Normal(w, givens, goal, d)
	text := showPred(w.Datas, goal) + " by " + showProof(d) + " if " + showPreds(w.Datas, givens) + "\n" + showWorld(w)
	if small := countSteps(d) <= 200; !is || !small {
		seen["none"]++
		want := api.ErrNone
		if !small {
			want = api.ErrArg
		}
		if e != want || f != want || showProof(got) != showProof(api.ClassDict{}) {
			t.Fatal(e, f, showProof(got), text)
		}
		return
	}
	seen["proof"]++
	want := refNormal(w, goal.Class, d)
	if countSteps(want) > 200 {
		seen["long"]++
		if e != api.OK || f != api.ErrLong || showProof(got) != showProof(api.ClassDict{}) {
			t.Fatal(e, f, showProof(got), text)
		}
		return
	}
	if e != api.OK || f != api.OK || showProof(got) != showProof(want) {
		t.Fatal(e, f, showProof(got), "want", showProof(want), text)
	}
	if !refIsProof(w, givens, goal, got) || hasUpOnBy(got) {
		t.Fatal("is not a proof in normal form", showProof(got), text)
	}
	if showProof(got) != showProof(d) {
		seen["changed"]++
	}
	if countSteps(got) > 7 {
		seen["big"]++
	}
	again, e := class.Normal(w, givens, goal, got)
	if e != api.OK || showProof(again) != showProof(got) {
		t.Fatal("normal forms change", e, showProof(got), showProof(again), text)
	}
}

func hasUpOnBy(d api.ClassDict) bool {
	return d.Op == api.ClassUp && d.Kids[0].Op == api.ClassBy || slices.ContainsFunc(d.Kids, hasUpOnBy)
}

// P4.4: if nothing is given, all proofs come to the first proof.
func TestOneDictionary(t *testing.T) {
	t.Parallel()
	m := newMaker(t, 3)
	others := 0
	for range 3000 {
		w := m.rightWorld()
		if len(w.Above) == 0 {
			continue
		}
		for range 8 {
			goal := putPred(m.pred(w), slices.Repeat([]api.KindType{integers()}, 3))
			first, e := class.Prove(w, nil, goal)
			proof, ok := m.proof(w, nil, goal)
			if ok != (e != api.ErrNone) {
				t.Fatal(ok, e, showPred(w.Datas, goal), showWorld(w))
			}
			if !ok || countSteps(proof) > 200 {
				continue
			}
			got, f := class.Normal(w, nil, goal, proof)
			if f != e || showProof(got) != showProof(first) {
				t.Fatal(f, e, showProof(got), showProof(first), showProof(proof), showWorld(w))
			}
			if showProof(proof) != showProof(first) {
				others++
			}
		}
	}
	if others < 500 {
		t.Error("too few", others)
	}
}

// P4.5: types can be put in for type variables in proofs.
func TestTypesPutIn(t *testing.T) {
	t.Parallel()
	m := newMaker(t, 4)
	met := 0
	for range 10000 {
		w := m.rightWorld()
		if len(w.Above) == 0 {
			continue
		}
		givens, goal := m.preds(w, 4), m.pred(w)
		proof, ok := m.proof(w, givens, goal)
		types := []api.KindType{m.kind(3, 4), m.kind(4, 4), m.kind(2, 4)}
		small := func(p api.ClassPred) bool { return countNodes(put(p.Type, types)) <= 8 }
		if !ok || countSteps(proof) > 200 || !small(goal) || slices.ContainsFunc(givens, func(p api.ClassPred) bool { return !small(p) }) {
			continue
		}
		if e := class.Verify(w, putPreds(givens, types), putPred(goal, types), proof); e != api.OK {
			t.Fatal(e, showProof(proof), showPred(w.Datas, goal), showPreds(w.Datas, givens), showWorld(w))
		}
		if strings.Contains(showPred(w.Datas, goal), "?") {
			met++
		}
	}
	if met < 1000 {
		t.Error("too few", met)
	}
}
