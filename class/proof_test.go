package class_test

import (
	"slices"
	"testing"

	"swingle/api"
	"swingle/class"
)

// chapterWorld is W of the chapter's examples.
func chapterWorld(t *testing.T) api.ClassWorld {
	t.Helper()
	datas := mustModule(t, "data List a = Nil | Cons(a, List(a));").Datas
	return worldOf(datas, [][]int{{}, {0}, {}}, "0 int", "0 Bool", "0 List(?0): 0 ?0", "1 int", "1 List(?0): 1 ?0", "2 List(?0): 2 ?0")
}

// tallWorld has the data types A, B and C, with one parameter each, and for the
// classes 0, 1 and 2 instances that need one, two and three predicates of it.
func tallWorld(t *testing.T) api.ClassWorld {
	t.Helper()
	datas := mustModule(t, "data A a = A(a); data B a = B(a); data C a = C(a);").Datas
	return worldOf(datas, [][]int{{}, {}, {}},
		"0 A(?0): 0 ?0", "0 B(?0): 0 ?0; 1 ?0", "0 C(?0): 0 ?0; 1 ?0; 2 ?0", "0 int",
		"1 A(?0): 0 ?0", "1 B(?0): 0 ?0; 1 ?0", "1 C(?0): 0 ?0; 1 ?0; 2 ?0", "1 int",
		"2 A(?0): 0 ?0", "2 B(?0): 0 ?0; 1 ?0", "2 C(?0): 0 ?0; 1 ?0; 2 ?0", "2 int")
}

// topWorld is as that, with a class 3 below all of them, whose instances need one predicate.
func topWorld(t *testing.T) api.ClassWorld {
	t.Helper()
	return worldOf(tallWorld(t).Datas, [][]int{{}, {}, {}, {0, 1, 2}},
		"0 A(?0): 0 ?0", "0 B(?0): 0 ?0; 1 ?0", "0 C(?0): 0 ?0; 1 ?0; 2 ?0",
		"1 A(?0): 0 ?0", "1 B(?0): 0 ?0; 1 ?0", "1 C(?0): 0 ?0; 1 ?0; 2 ?0",
		"2 A(?0): 0 ?0", "2 B(?0): 0 ?0; 1 ?0", "2 C(?0): 0 ?0; 1 ?0; 2 ?0",
		"3 A(?0): 3 ?0", "3 B(?0): 3 ?0", "3 C(?0): 3 ?0")
}

// shape has classes of which one can go up to 0 in several ways.
func shape(t *testing.T) api.ClassWorld {
	t.Helper()
	return worldOf(mustModule(t, more).Datas, [][]int{{}, {0}, {0}, {1, 2}, {2}, {0, 3, 4}},
		"5 int", "4 int", "3 int", "2 int", "1 int", "0 int", "0 Pair(?0, ?1): 0 ?1; 5 ?0", "0 ?0 -> ?1: 2 ?1")
}

// P4.2: the chapter's examples, and the order of what is tried.
func TestProve(t *testing.T) {
	w, s := chapterWorld(t), shape(t)
	for _, x := range []struct {
		w                  api.ClassWorld
		givens, goal, want string
		e                  api.Errno
	}{
		{w, "", "0 List(List(int))", "2(2(0))", api.OK},
		{w, "1 ?0", "0 List(?0)", "2(up(1, g(0)))", api.OK},
		{w, "", "0 List(?0)", "", api.ErrNone},
		{w, "1 ?0; 0 ?0", "0 ?0", "g(1)", api.OK},
		{w, "", "2 int", "", api.ErrNone},
		{w, "", "2 List(int)", "", api.ErrNone},
		{w, "2 int", "2 List(int)", "5(g(0))", api.OK},
		{w, "", "1 int", "3", api.OK},
		{w, "", "1 Bool", "", api.ErrNone},
		{w, "", "1 List(Bool)", "", api.ErrNone},
		{w, "1 int", "0 int", "up(1, g(0))", api.OK},
		{w, "1 List(?0)", "0 List(?0)", "up(1, g(0))", api.OK},
		{w, "0 ?0; 0 ?0; 0 ?0", "0 ?0", "g(0)", api.OK},
		{w, "0 ?1; 0 ?0; 0 ?0", "0 ?0", "g(1)", api.OK},
		{w, "1 ?1; 1 ?0; 1 ?0", "0 ?0", "up(1, g(1))", api.OK},
		{w, "0 ?0", "1 ?0", "", api.ErrNone},
		{w, "0 ?0 -> ?1", "0 ?0 -> ?1", "g(0)", api.OK},
		{w, "0 ?0 -> ?1", "0 ?1 -> ?0", "", api.ErrNone},
		{w, "0 List(?0)", "0 ?0", "", api.ErrNone},
		{s, "", "0 int", "5", api.OK},
		{s, "5 ?0", "0 ?0", "up(5, g(0))", api.OK},
		{s, "5 ?0", "1 ?0", "up(3, up(5, g(0)))", api.OK},
		{s, "5 ?0", "2 ?0", "up(3, up(5, g(0)))", api.OK},
		{s, "5 ?0", "3 ?0", "up(5, g(0))", api.OK},
		{s, "5 ?0", "4 ?0", "up(5, g(0))", api.OK},
		{s, "5 ?0", "5 ?0", "g(0)", api.OK},
		{s, "4 ?0", "0 ?0", "up(2, up(4, g(0)))", api.OK},
		{s, "4 ?0", "1 ?0", "", api.ErrNone},
		{s, "3 ?0", "0 ?0", "up(1, up(3, g(0)))", api.OK},
		{s, "4 ?0; 1 ?0", "0 ?0", "up(2, up(4, g(0)))", api.OK},
		{s, "4 ?1; 1 ?0; 0 ?0", "0 ?0", "g(2)", api.OK},
		{s, "4 ?1; 1 ?0", "0 Pair(int, ?0)", "6(up(1, g(1)), 0)", api.OK},
		{s, "5 ?1; 3 Pair(?1, ?1)", "0 Pair(?1, Pair(?1, ?1))", "6(up(1, up(3, g(1))), g(0))", api.OK},
		{s, "5 ?1", "0 Pair(?1, Pair(?1, ?1))", "6(6(up(5, g(0)), g(0)), g(0))", api.OK},
		{s, "4 ?1", "0 ?0 -> ?1", "7(up(4, g(0)))", api.OK},
		{s, "4 ?1", "0 ?1 -> ?0", "", api.ErrNone},
		{s, "", "0 Pair(int, Nat)", "", api.ErrNone},
	} {
		got, e := class.Prove(x.w, predsOf(x.w.Datas, x.givens), predsOf(x.w.Datas, x.goal)[0])
		want := showProof(api.ClassDict{})
		if x.e == api.OK {
			want = x.want
		}
		if e != x.e || showProof(got) != want {
			t.Error(x.givens, "|-", x.goal, "got", showProof(got), e, "want", want, x.e)
		}
	}
}

// P4.2, P4.3: proofs of 200 steps are small, those of 201 are not.
func TestSmall(t *testing.T) {
	w, top := tallWorld(t), topWorld(t)
	for _, x := range []struct {
		w            api.ClassWorld
		givens, goal string
		steps        int
	}{
		{w, "", "0 A(B(B(C(C(B(A(int)))))))", 200},
		{w, "", "0 B(C(B(C(B(A(int))))))", 201},
		{top, "3 ?0", "1 A(B(B(C(C(B(?0))))))", 200},
		{top, "3 ?0", "1 B(C(B(C(B(?0)))))", 201},
		{w, "", "0 C(C(C(C(C(C(C(int)))))))", 3280},
	} {
		goal := predsOf(x.w.Datas, x.goal)[0]
		givens := predsOf(x.w.Datas, x.givens)
		first, _ := refFirst(x.w, givens, goal)
		if countSteps(first) != x.steps {
			t.Fatal(x.goal, countSteps(first))
		}
		got, e := class.Prove(x.w, givens, goal)
		if x.steps > 200 && (e != api.ErrLong || showProof(got) != showProof(api.ClassDict{})) {
			t.Error(x.goal, e, showProof(got))
		}
		if x.steps <= 200 && (e != api.OK || showProof(got) != showProof(first)) {
			t.Error(x.goal, e, showProof(got))
		}
	}
	// There is no proof, though one that is begun is not small.
	if _, e := class.Prove(w, nil, predsOf(w.Datas, "0 C(C(C(C(C(C(C(Bool)))))))")[0]); e != api.ErrNone {
		t.Error(e)
	}
	// Small proofs, whose normal forms are not all small.
	for goal, want := range map[string]api.Errno{"1 A(B(B(C(C(B(?0))))))": api.OK, "1 B(C(B(C(B(?0)))))": api.ErrLong} {
		proof := given(0)
		text := goal[2:]
		for _, letter := range slices.Backward([]byte(text)) {
			if letter >= 'A' && letter <= 'C' {
				proof = by(9+int(letter-'A'), proof)
			}
		}
		proof = up(3, proof)
		givens := predsOf(top.Datas, "3 ?0")
		one := predsOf(top.Datas, goal)[0]
		if e := class.Verify(top, givens, one, proof); e != api.OK {
			t.Error(goal, e)
		}
		got, e := class.Normal(top, givens, one, proof)
		first, f := class.Prove(top, givens, one)
		if e != want || f != want || showProof(got) != showProof(first) {
			t.Error(goal, e, f, showProof(got))
		}
	}
	// What is handed in.
	chain := func(steps int) api.ClassDict {
		made := given(0)
		for range steps - 1 {
			made = up(0, made)
		}
		return made
	}
	wide := by(0, slices.Repeat([]api.ClassDict{given(0)}, 200)...)
	endless := up(0, given(0))
	endless.Kids[0] = endless
	for i, x := range []struct {
		d api.ClassDict
		e api.Errno
	}{{chain(200), api.ErrNone}, {chain(201), api.ErrArg}, {wide, api.ErrArg}, {by(0, wide.Kids[:199]...), api.ErrNone}, {endless, api.ErrArg}} {
		goal := pred(0, typeVar(0))
		got, f := class.Normal(w, []api.ClassPred{goal}, goal, x.d)
		if e := class.Verify(w, []api.ClassPred{goal}, goal, x.d); e != x.e || f != x.e || showProof(got) != showProof(api.ClassDict{}) {
			t.Error(i, e, f)
		}
	}
}

// P4.2: Verify.
func TestVerify(t *testing.T) {
	w, s := chapterWorld(t), shape(t)
	for _, x := range []struct {
		w                   api.ClassWorld
		givens, goal, proof string
		e                   api.Errno
	}{
		{w, "", "0 List(int)", "up(1, 4(3))", api.OK},
		{w, "", "0 List(int)", "2(up(1, 3))", api.OK},
		{w, "", "0 List(int)", "2(0)", api.OK},
		{w, "", "0 List(int)", "2(1)", api.ErrNone},
		{w, "", "0 List(int)", "2(3)", api.ErrNone},
		{w, "", "0 List(int)", "2", api.ErrNone},
		{w, "", "0 List(int)", "2(0, 0)", api.ErrNone},
		{w, "", "0 List(int)", "4(3)", api.ErrNone},
		{w, "", "0 List(int)", "0", api.ErrNone},
		{w, "", "0 int", "0", api.OK},
		{w, "", "0 int", "0(0)", api.ErrNone},
		{w, "", "0 int", "6", api.ErrNone},
		{w, "", "0 int", "up(1, 3)", api.OK},
		{w, "", "0 int", "up(2, 3)", api.ErrNone},
		{w, "", "0 int", "up(0, 0)", api.ErrNone},
		{w, "", "0 int", "up(3, 0)", api.ErrNone},
		{w, "", "1 int", "up(1, 3)", api.ErrNone},
		{w, "0 int", "0 int", "g(0)", api.OK},
		{w, "0 int; 0 int", "0 int", "g(1)", api.OK},
		{w, "0 int", "0 int", "g(1)", api.ErrNone},
		{w, "1 int", "0 int", "g(0)", api.ErrNone},
		{w, "0 Bool", "0 int", "g(0)", api.ErrNone},
		{w, "0 List(?0)", "0 List(?1)", "g(0)", api.ErrNone},
		{w, "", "0 ?0", "0", api.ErrNone},
		{w, "1 List(?0)", "0 List(?0)", "up(1, g(0))", api.OK},
		{s, "", "0 int", "up(1, up(3, up(5, 0)))", api.OK},
		{s, "", "0 int", "up(2, up(4, up(5, 0)))", api.OK},
		{s, "", "0 int", "up(3, up(5, 0))", api.ErrNone},
		{s, "0 ?0; 5 ?1", "0 ?1 -> ?0", "7(g(0))", api.ErrNone},
		{s, "2 ?0; 5 ?1", "0 ?1 -> ?0", "7(g(0))", api.OK},
		{s, "0 ?0; 5 ?1", "0 Pair(?1, ?0)", "6(g(0), g(1))", api.OK},
		{s, "0 ?0; 5 ?1", "0 Pair(?1, ?0)", "6(g(1), g(0))", api.ErrNone},
	} {
		goal := predsOf(x.w.Datas, x.goal)[0]
		if e := class.Verify(x.w, predsOf(x.w.Datas, x.givens), goal, proofOf(x.proof)); e != x.e {
			t.Error(x.givens, "|-", x.goal, x.proof, "got", e, "want", x.e)
		}
	}
	one := []api.ClassPred{pred(0, typeVar(0))}
	for i, d := range []api.ClassDict{{}, {Op: 4}, {Op: -1}, {Op: api.ClassGiven, N: -1}, {Op: api.ClassGiven, Kids: []api.ClassDict{given(0)}}, {Op: api.ClassUp, N: 1}, {Op: api.ClassUp, N: -1, Kids: []api.ClassDict{given(0)}}, {Op: api.ClassUp, N: 1, Kids: []api.ClassDict{given(0), given(0)}}, by(-1)} {
		got, f := class.Normal(w, one, one[0], d)
		if e := class.Verify(w, one, one[0], d); e != api.ErrNone || f != api.ErrNone || showProof(got) != showProof(api.ClassDict{}) {
			t.Error(i, e, f)
		}
	}
}

// P4.3: Normal.
func TestNormal(t *testing.T) {
	w, s := chapterWorld(t), shape(t)
	for _, x := range []struct {
		w                         api.ClassWorld
		givens, goal, proof, want string
	}{
		{w, "", "0 List(int)", "up(1, 4(3))", "2(0)"},
		{w, "1 ?0", "0 List(?0)", "up(1, 4(g(0)))", "2(up(1, g(0)))"},
		{w, "", "0 List(int)", "2(up(1, 3))", "2(0)"},
		{w, "", "0 List(List(int))", "up(1, 4(4(3)))", "2(2(0))"},
		{w, "", "1 List(int)", "4(3)", "4(3)"},
		// What is given stays, also where there is another proof.
		{w, "1 int; 1 int", "0 int", "up(1, g(1))", "up(1, g(1))"},
		{w, "0 int; 1 int", "0 List(int)", "up(1, 4(g(1)))", "2(up(1, g(1)))"},
		{w, "1 List(?0)", "0 List(List(?0))", "up(1, 4(g(0)))", "2(up(1, g(0)))"},
		{s, "", "0 int", "up(1, up(3, up(5, 0)))", "5"},
		{s, "5 ?0", "0 ?0", "up(1, up(3, up(5, g(0))))", "up(1, up(3, up(5, g(0))))"},
		{s, "0 ?0; 5 int", "0 Pair(int, ?0)", "6(g(0), g(1))", "6(g(0), g(1))"},
		{s, "", "0 Pair(int, int)", "6(up(2, up(4, 1)), 0)", "6(5, 0)"},
	} {
		goal := predsOf(x.w.Datas, x.goal)[0]
		if got, e := class.Normal(x.w, predsOf(x.w.Datas, x.givens), goal, proofOf(x.proof)); e != api.OK || showProof(got) != x.want {
			t.Error(x.givens, "|-", x.goal, x.proof, "got", showProof(got), e, "want", x.want)
		}
	}
}
