package class_test

import (
	"math"
	"slices"
	"testing"

	"swingle/api"
	"swingle/class"
)

// twelve is a world with as many classes, instances and needs as there can be.
func twelve(t *testing.T) api.ClassWorld {
	t.Helper()
	return worldOf(mustModule(t, more).Datas, [][]int{{}, {0}, {}, {0, 1, 2}, {}, {0, 1, 2, 3, 4}},
		"0 int", "1 int", "2 int", "3 int", "4 int", "5 int", "0 ?0 -> ?1: 0 ?0; 0 ?1; 1 ?0", "0 Tri(?0, ?1, ?2): 2 ?0; 2 ?2; 3 ?1", "0 Bool", "0 Nat", "4 Nat", "0 Ph(?0): 0 ?0")
}

// P4.1: worlds that are right, and such whose instances are not covered.
func TestCheck(t *testing.T) {
	chapter := []string{"0 int", "0 Bool", "0 List(?0): 0 ?0", "1 int", "1 List(?0): 1 ?0", "2 List(?0): 2 ?0"}
	lists := [][]int{{}, {0}, {}}
	line := [][]int{{}, {0}, {1}, {0, 2}}
	both := [][]int{{}, {0}, {0}, {1, 2}}
	datas := mustModule(t, more).Datas
	for _, x := range []struct {
		above [][]int
		insts []string
		n     int
		e     api.Errno
	}{
		{lists, chapter, 0, api.OK},
		{lists, slices.Delete(slices.Clone(chapter), 2, 3), 3, api.ErrRule},
		{lists, append(slices.Clone(chapter[:4]), "1 List(?0)", chapter[5]), 4, api.ErrRule},
		{lists, append(slices.Clone(chapter[:4]), "1 List(?0): 2 ?0", chapter[5]), 4, api.ErrRule},
		{lists, append(slices.Clone(chapter[:4]), "1 List(?0): 0 ?0", chapter[5]), 0, api.OK},
		{lists, slices.Delete(slices.Clone(chapter), 0, 1), 2, api.ErrRule},
		{nil, nil, 0, api.OK},
		{lists, nil, 0, api.OK},
		{[][]int{{}}, []string{"0 int"}, 0, api.OK},
		{lists, []string{"1 int"}, 0, api.ErrRule},
		{lists, []string{"1 int", "0 int"}, 0, api.OK},
		{lists, []string{"1 int", "1 Bool", "0 int"}, 1, api.ErrRule},
		{lists, []string{"1 int", "0 Bool"}, 0, api.ErrRule},
		{lists, []string{"1 List(?0)", "0 List(?0): 0 ?0"}, 0, api.ErrRule},
		{lists, []string{"1 Pair(?0, ?1): 1 ?0", "0 Pair(?0, ?1): 0 ?0"}, 0, api.OK},
		{lists, []string{"1 Pair(?0, ?1): 1 ?1", "0 Pair(?0, ?1): 0 ?0"}, 0, api.ErrRule},
		{lists, []string{"1 Pair(?0, ?1): 1 ?1; 2 ?0", "0 Pair(?0, ?1): 0 ?1; 1 ?1; 2 ?0"}, 0, api.OK},
		{lists, []string{"1 ?0 -> ?1: 0 ?1", "0 ?0 -> ?1: 0 ?1"}, 0, api.OK},
		{lists, []string{"1 ?0 -> ?1: 0 ?0", "0 ?0 -> ?1: 0 ?1"}, 0, api.ErrRule},
		// By several steps: each step needs an instance, a need can follow by more than one.
		{line, []string{"2 int", "0 int"}, 0, api.ErrRule},
		{line, []string{"2 int", "1 int"}, 1, api.ErrRule},
		{line, []string{"3 int", "2 int", "1 int", "0 int"}, 0, api.OK},
		{line, []string{"3 int", "2 int", "1 int"}, 0, api.ErrRule},
		{line, []string{"1 List(?0): 3 ?0", "0 List(?0): 0 ?0"}, 0, api.OK},
		{line, []string{"1 List(?0): 0 ?0", "0 List(?0): 3 ?0"}, 0, api.ErrRule},
		// A step up from another instance does not cover: nothing would be there to begin with.
		{both, []string{"1 int", "2 int"}, 0, api.ErrRule},
		{both, []string{"0 int", "3 int", "1 int"}, 1, api.ErrRule},
		{both, []string{"0 int", "3 int", "1 int", "2 int"}, 0, api.OK},
	} {
		w := worldOf(datas, x.above, x.insts...)
		if n, e := class.Check(w); n != x.n || e != x.e {
			t.Error(x.insts, "got", n, e, "want", x.n, x.e)
		}
	}
	w := twelve(t)
	w.Insts = append(w.Insts[:6], w.Insts[8:]...)
	if n, e := class.Check(w); n != 0 || e != api.OK {
		t.Error(n, e)
	}
	if n, e := class.Check(twelve(t)); n != 0 || e != api.OK {
		t.Error(n, e)
	}
}

// badWorlds are not formed, each with one thing wrong.
func badWorlds(t *testing.T) []api.ClassWorld {
	t.Helper()
	type change func(w *api.ClassWorld)
	above := func(class int, list ...int) change {
		return func(w *api.ClassWorld) { w.Above[class] = list }
	}
	inst := func(i api.ClassInst) change {
		return func(w *api.ClassWorld) { w.Insts[11] = i }
	}
	needs := func(list ...api.ClassPred) change {
		return func(w *api.ClassWorld) { w.Insts[7].Needs = list }
	}
	endless := arrow(integers(), integers())
	endless.Parts[0] = endless
	one := func(class, v int) api.ClassPred { return pred(class, typeVar(v)) }
	data := func(n int) api.ClassInst { return api.ClassInst{Class: 2, Sort: api.KindOfData, N: n} }
	list := []change{
		func(w *api.ClassWorld) { *w = api.ClassWorld{} },
		func(w *api.ClassWorld) { w.Datas = nil },
		func(w *api.ClassWorld) { w.Datas[1].Name = "" },
		func(w *api.ClassWorld) { w.Datas[0].Params = 1 },
		func(w *api.ClassWorld) { w.Datas = w.Datas[:5] }, // Tri has an instance
		func(w *api.ClassWorld) { w.Above = append(w.Above, nil) },
		func(w *api.ClassWorld) { w.Above = make([][]int, 1<<16) },
		func(w *api.ClassWorld) { w.Above = w.Above[:5] },
		above(0, 0), above(0, -1), above(1, 1), above(1, 2), above(3, 2, 1), above(3, 1, 1), above(3, 0, 3), above(3, -1, 1), above(5, 4, 3, 2, 1, 0), above(5, 0, 1, 2, 3, 4, 5), above(3, math.MaxInt), above(3, math.MinInt), above(2, make([]int, 1<<16)...),
		func(w *api.ClassWorld) {
			w.Insts = append(w.Insts, api.ClassInst{Class: 3, Sort: api.KindOfData, N: 3})
		},
		func(w *api.ClassWorld) { w.Insts = make([]api.ClassInst, 1<<16) },
		func(w *api.ClassWorld) { w.Insts[0].Needs = predsOf(w.Datas, "0 ?0") },
		func(w *api.ClassWorld) { w.Insts[9].Needs = predsOf(w.Datas, "0 ?0") },
		inst(api.ClassInst{}), inst(api.ClassInst{Class: -1, Sort: api.KindInt}), inst(api.ClassInst{Class: 6, Sort: api.KindInt}), inst(api.ClassInst{Class: math.MaxInt, Sort: api.KindInt}),
		inst(api.ClassInst{Class: 2, Sort: api.KindVar}), inst(api.ClassInst{Class: 2, Sort: 5}), inst(api.ClassInst{Class: 2, Sort: -1}), inst(api.ClassInst{Class: 2, Sort: api.KindFun, N: 1}), inst(api.ClassInst{Class: 2, Sort: api.KindFun, N: -1}), inst(api.ClassInst{Class: 2, Sort: api.KindInt, N: 1}),
		inst(data(6)), inst(data(-1)), inst(data(math.MinInt)),
		inst(api.ClassInst{Class: 2, Sort: api.KindInt}), inst(api.ClassInst{Class: 0, Sort: api.KindOfData, N: 3}), inst(api.ClassInst{Class: 0, Sort: api.KindFun, Needs: []api.ClassPred{one(0, 0)}}),
		inst(api.ClassInst{Class: 2, Sort: api.KindOfData, N: 3, Needs: []api.ClassPred{one(0, 0)}}), inst(api.ClassInst{Class: 2, Sort: api.KindFun, Needs: []api.ClassPred{one(0, 2)}}), inst(api.ClassInst{Class: 2, Sort: api.KindOfData, N: 4, Needs: []api.ClassPred{one(0, 1)}}),
		needs(one(0, 3)), needs(one(0, -1)), needs(one(6, 0)), needs(one(-1, 0)), needs(pred(0, integers())), needs(pred(0, ofData(0))), needs(pred(0, api.KindType{})), needs(pred(0, ofData(1, typeVar(0)))), needs(pred(0, endless)),
		needs(pred(0, api.KindType{Sort: api.KindVar, Parts: []api.KindType{integers()}})),
		needs(one(0, 0), one(0, 0)), needs(one(0, 1), one(0, 0)), needs(one(1, 0), one(0, 1)), needs(one(0, 0), one(1, 0), one(1, 0)),
		needs(one(0, 0), one(0, 1), one(0, 2), one(1, 0)), needs(make([]api.ClassPred, 1<<16)...),
	}
	return each(list, func(x change) api.ClassWorld {
		w := twelve(t)
		x(&w)
		return w
	})
}

// P4.1: worlds that are not formed.
func TestNotFormedWorlds(t *testing.T) {
	for i, w := range badWorlds(t) {
		if n, e := class.Check(w); n != 0 || e != api.ErrArg {
			t.Error(i, n, e)
		}
	}
	good := func(change func(w *api.ClassWorld)) {
		t.Helper()
		w := twelve(t)
		change(&w)
		if _, e := class.Check(w); e == api.ErrArg {
			t.Error("is formed:", showWorld(w))
		}
	}
	good(func(w *api.ClassWorld) { w.Above[3] = []int{0, 2} })
	good(func(w *api.ClassWorld) { w.Insts[7].Needs = predsOf(w.Datas, "0 ?0; 0 ?1; 0 ?2") })
	good(func(w *api.ClassWorld) { w.Insts[7].Needs = predsOf(w.Datas, "0 ?2; 1 ?1; 5 ?0") })
	good(func(w *api.ClassWorld) { w.Insts[11] = api.ClassInst{Class: 1, Sort: api.KindOfData} })
}
