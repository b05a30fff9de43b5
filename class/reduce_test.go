package class_test

import (
	"slices"
	"strings"
	"testing"

	"swingle/api"
	"swingle/class"
)

// P4.6: random lists.
func TestRandomReduce(t *testing.T) {
	t.Parallel()
	m := newMaker(t, 5)
	met, entailed := map[api.Errno]int{}, map[api.Errno]int{}
	for range 6000 {
		w := m.rightWorld()
		if len(w.Above) == 0 {
			continue
		}
		for range 4 {
			list := each(m.preds(w, 8), func(p api.ClassPred) api.ClassPred {
				return putPred(p, []api.KindType{typeVar(m.Intn(3)), typeVar(m.Intn(6)), typeVar(m.Intn(20))})
			})
			want, wantError := refReduce(w, list)
			got, e := class.Reduce(w, list)
			if e != wantError || showPreds(w.Datas, got) != showPreds(w.Datas, want) {
				t.Fatal(e, showPreds(w.Datas, got), "want", wantError, showPreds(w.Datas, want), "of", showPreds(w.Datas, list), showWorld(w))
			}
			met[e]++
			goals := m.preds(w, 3)
			entailed[checkEntails(t, w, list, goals)]++
			if e == api.OK {
				checkReduced(t, m, w, list, got)
			}
		}
	}
	t.Log(met, entailed)
	if met[api.OK] < 2000 || met[api.ErrNone] < 2000 || met[api.ErrLong] < 20 || entailed[api.OK] < 1000 || entailed[api.ErrNone] < 1000 {
		t.Error("too few of some kind", met, entailed)
	}
}

func checkEntails(t *testing.T, w api.ClassWorld, givens, goals []api.ClassPred) api.Errno {
	t.Helper()
	want := slices.IndexFunc(goals, func(p api.ClassPred) bool { _, ok := refFirst(w, givens, p); return !ok })
	wantError := api.ErrNone
	if want < 0 {
		want, wantError = 0, api.OK
	}
	n, e := class.Entails(w, givens, goals)
	if n != want || e != wantError {
		t.Fatal(n, e, "want", want, wantError, showPreds(w.Datas, goals), "if", showPreds(w.Datas, givens), showWorld(w))
	}
	return e
}

// checkReduced checks what is promised of a list's context.
func checkReduced(t *testing.T, m maker, w api.ClassWorld, list, context []api.ClassPred) {
	t.Helper()
	if n, e := class.Entails(w, context, list); e != api.OK {
		t.Fatal("does not follow from its context:", n, e, showPreds(w.Datas, list), showPreds(w.Datas, context), showWorld(w))
	}
	for n, p := range context {
		others := slices.Delete(slices.Clone(context), n, n+1)
		if _, e := class.Entails(w, others, []api.ClassPred{p}); e != api.ErrNone || p.Type.Sort != api.KindVar {
			t.Fatal("follows from the others:", e, showPreds(w.Datas, context), showWorld(w))
		}
	}
	if again, e := class.Reduce(w, context); e != api.OK || showPreds(w.Datas, again) != showPreds(w.Datas, context) {
		t.Fatal("a context comes down to another one", showPreds(w.Datas, context), showPreds(w.Datas, again))
	}
	// Another list of type variables from which the list follows.
	var other []api.ClassPred
	for range 1 + m.Intn(8) {
		other = append(other, pred(m.Intn(len(w.Above)), typeVar(m.Intn(3))))
	}
	if _, e := class.Entails(w, other, list); e == api.OK {
		if _, e := class.Entails(w, other, context); e != api.OK {
			t.Fatal("does not follow from another list", showPreds(w.Datas, context), showPreds(w.Datas, other), showWorld(w))
		}
	}
}

// P4.6: tables.
func TestEntails(t *testing.T) {
	w := chapterWorld(t)
	for _, x := range []struct {
		givens, goals string
		n             int
		e             api.Errno
	}{
		{"1 ?0", "0 ?0; 2 ?0", 1, api.ErrNone},
		{"", "", 0, api.OK},
		{"1 ?0", "", 0, api.OK},
		{"", "0 int; 1 int; 0 Bool", 0, api.OK},
		{"", "0 int; 1 Bool; 2 int", 1, api.ErrNone},
		{"", "2 int", 0, api.ErrNone},
		{"2 int", "2 List(int)", 0, api.OK},
		{"0 ?0; 2 ?0", "2 List(List(?0)); 0 List(?0); 1 ?0", 2, api.ErrNone},
		{"1 List(?0)", "0 List(?0); 0 ?0", 1, api.ErrNone},
		{"0 ?0", "0 ?1", 0, api.ErrNone},
		{"0 ?0 -> ?1", "0 List(?0 -> ?1); 0 List(?1 -> ?0)", 1, api.ErrNone},
		{strings.Repeat("0 ?0; ", 7) + "1 ?1", strings.Repeat("0 ?1; ", 7) + "1 ?1", 0, api.OK},
		{strings.Repeat("0 ?0; ", 7) + "1 ?1", strings.Repeat("0 ?1; ", 7) + "2 ?1", 7, api.ErrNone},
		{strings.Repeat("0 ?0; ", 8) + "1 ?1", "", 0, api.ErrArg},
		{"", strings.Repeat("0 ?0; ", 8) + "1 ?1", 0, api.ErrArg},
		{"0 List(List(List(List(List(List(List(?0)))))))", "0 List(List(List(List(List(List(List(?0)))))))", 0, api.OK},
		{"0 List(List(List(List(List(List(List(List(?0))))))))", "", 0, api.ErrArg},
		{"", "0 List(List(List(List(List(List(List(List(?0))))))))", 0, api.ErrArg},
		{"3 ?0", "", 0, api.ErrArg},
		{"", "0 ?0; 3 ?0", 0, api.ErrArg},
	} {
		n, e := class.Entails(w, predsOf(w.Datas, x.givens), predsOf(w.Datas, x.goals))
		if n != x.n || e != x.e {
			t.Error(x, n, e)
		}
	}
	// A proof that is not small is one.
	tall := tallWorld(t)
	if n, e := class.Entails(tall, nil, predsOf(tall.Datas, "0 int; 0 C(C(C(C(C(C(C(int)))))))")); n != 0 || e != api.OK {
		t.Error(n, e)
	}
}

func TestReduce(t *testing.T) {
	w := chapterWorld(t)
	wide := worldOf(w.Datas, [][]int{{}, {}, {}, {1}, {0, 3}, {}}, "0 List(?0): 0 ?0; 1 ?0; 2 ?0", "2 int")
	for _, x := range []struct {
		w          api.ClassWorld
		list, want string
		e          api.Errno
	}{
		{w, "0 List(?1); 1 List(List(?0)); 0 ?0; 2 ?0", "1 ?0; 2 ?0; 0 ?1", api.OK},
		{w, "2 int", "", api.ErrNone},
		{w, "", "", api.OK},
		{w, "0 List(int)", "", api.OK},
		{w, "0 Bool; 1 int", "", api.OK},
		{w, "0 Bool; 1 Bool", "", api.ErrNone},
		{w, "0 ?0; 0 ?0", "0 ?0", api.OK},
		{w, "0 ?7; 0 ?19; 1 ?3", "1 ?3; 0 ?7; 0 ?19", api.OK},
		{w, "0 ?0 -> ?0", "", api.ErrNone},
		{w, "0 List(List(List(List(List(List(List(?0)))))))", "0 ?0", api.OK},
		{w, "0 ?0; 0 ?1; 0 ?2; 0 ?3; 0 ?4; 0 ?5; 0 ?6; 0 ?7", "0 ?0; 0 ?1; 0 ?2; 0 ?3; 0 ?4; 0 ?5; 0 ?6; 0 ?7", api.OK},
		{w, "0 ?0; 0 ?1; 0 ?2; 0 ?3; 0 ?4; 0 ?5; 0 ?6; 0 ?7; 0 ?7", "", api.ErrArg},
		{wide, "4 ?0; 3 ?0; 1 ?0; 0 ?0; 5 ?0", "4 ?0; 5 ?0", api.OK},
		{wide, "3 ?0; 1 ?0; 0 ?0; 4 ?1", "0 ?0; 3 ?0; 4 ?1", api.OK},
		{wide, "0 List(?2); 2 List(int)", "", api.ErrNone},
		{wide, "0 List(?2); 2 int", "0 ?2; 1 ?2; 2 ?2", api.OK},
		{wide, "4 ?2; 0 List(?2)", "2 ?2; 4 ?2", api.OK},
		{wide, "0 List(?0); 0 List(?1); 0 ?2; 1 ?2", "0 ?0; 1 ?0; 2 ?0; 0 ?1; 1 ?1; 2 ?1; 0 ?2; 1 ?2", api.OK},
		{wide, "0 List(?0); 0 List(?1); 0 List(?2)", "", api.ErrLong},
		{wide, "0 List(?0); 0 List(?1); 0 List(?2); 4 ?0", "2 ?0; 4 ?0; 0 ?1; 1 ?1; 2 ?1; 0 ?2; 1 ?2; 2 ?2", api.OK},
		{wide, "0 List(?0); 0 List(?1); 0 List(?2); 4 ?0; 5 ?2", "", api.ErrLong},
		{wide, "0 List(?0); 0 List(?1); 0 List(?2); 4 ?0; 5 ?2; 4 ?2", "2 ?0; 4 ?0; 0 ?1; 1 ?1; 2 ?1; 2 ?2; 4 ?2; 5 ?2", api.OK},
		{wide, "0 List(?0); 0 List(?1); 0 List(?2); 0 int", "", api.ErrNone},
		{wide, "0 List(int)", "", api.ErrNone},
	} {
		got, e := class.Reduce(x.w, predsOf(w.Datas, x.list))
		want := x.want
		if x.e != api.OK {
			want = ""
		}
		if e != x.e || showPreds(w.Datas, got) != want {
			t.Error(x.list, "got", showPreds(w.Datas, got), e, "want", want, x.e)
		}
	}
}
