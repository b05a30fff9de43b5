package class_test

import (
	"slices"
	"testing"

	"swingle/api"
	"swingle/class"
	"swingle/kind"
)

// needing are functions that need something, by their names: sort: 1 ?0; 2 ?0.
type needing struct {
	name, needs string
}

func funsOf(m api.ReadModule, list ...needing) []api.ClassFun {
	return each(list, func(x needing) api.ClassFun {
		fun := slices.IndexFunc(m.Prog.Sig.Funs, func(f api.TermName) bool { return f.Name == x.name })
		return api.ClassFun{Fun: fun, Needs: predsOf(m.Datas, x.needs)}
	})
}

// placeRow is an expression, with its context and its places.
type placeRow struct {
	source, context, places string
	e, placesError          api.Errno
}

func checkPlaces(t *testing.T, w api.ClassWorld, m api.ReadModule, funs []api.ClassFun, x placeRow) {
	t.Helper()
	g := mustGoal(t, m, x.source)
	context, e := class.Needs(w, m, funs, g)
	places, f := class.Put(w, m, funs, g)
	if e != x.e || showPreds(w.Datas, context) != x.context {
		t.Error(x.source, "needs", showPreds(w.Datas, context), e, "want", x.context, x.e)
	}
	if f != x.placesError || showPlaces(places) != x.places {
		t.Error(x.source, "put", showPlaces(places), f, "want", x.places, x.placesError)
	}
}

// P4.7: the chapter's examples, and other expressions.
func TestPlaces(t *testing.T) {
	m := mustModule(t, `data List a = Nil | Cons(a, List(a)); sort(Nil) = Nil; sort(Cons(h, t)) = Cons(h, sort(t)); eq(x, y) = x =:= y; id(x) = x; flip(x, y) = flop(y, x); flop(x, y) = flip(y, x); any = x; coin = 0 ? 1; twice(f, x) = f @ (f @ x);`)
	w := chapterWorld(t)
	funs := funsOf(m, needing{"sort", "1 ?0"}, needing{"eq", "0 ?0"}, needing{"flip", "0 ?0; 2 ?1"}, needing{"flop", "1 ?1; 2 ?0"}, needing{"any", ""}, needing{"coin", ""})
	for _, x := range []placeRow{
		{"sort(Cons(x, y))", "1 ?0", "0: g(0)", api.OK, api.OK},
		{"sort(Cons(1, sort(Nil)))", "", "0: 3; 3: 3", api.OK, api.OK},
		{"x", "", "", api.OK, api.OK},
		{"id(x)", "", "", api.OK, api.OK},
		{"any", "", "0: ", api.OK, api.OK},
		{"coin + coin", "", "1: ; 2: ", api.OK, api.OK},
		{"sort", "1 ?0", "0: g(0)", api.OK, api.OK},
		{"twice(sort)", "1 ?0", "1: g(0)", api.OK, api.OK},
		{"twice(id(sort), Cons(Nil, x))", "1 ?0", "2: 4(g(0))", api.OK, api.OK},
		{"eq(x)", "0 ?0", "0: g(0)", api.OK, api.OK},
		{"eq(sort(x), y)", "1 ?0", "0: 2(up(1, g(0))); 1: g(0)", api.OK, api.OK},
		{"eq(sort(x), Cons(sort(Nil), u))", "1 ?0", "0: 2(2(up(1, g(0)))); 1: 4(g(0)); 4: g(0)", api.OK, api.OK},
		{"eq(1, 2) & eq(True, False)", "", "1: 0; 4: 1", api.OK, api.OK},
		{"eq(x, y) & eq(u, v) & eq(x, z)", "0 ?0; 0 ?1", "1: g(0); 5: g(1); 8: g(0)", api.OK, api.OK},
		{"flip", "0 ?0; 2 ?1", "0: g(0), g(1)", api.OK, api.OK},
		{"flop", "1 ?0; 2 ?1", "0: g(0), g(1)", api.OK, api.OK},
		{"flip(1, x)", "2 ?1", "0: 0, g(0)", api.OK, api.OK},
		{"flop(x, Nil)", "1 ?1; 2 ?2", "0: g(0), 5(g(1))", api.OK, api.OK},
		{"let x = eq in x @ sort(Nil) @ sort(y)", "1 ?0", "1: 2(up(1, g(0))); 5: g(0); 7: g(0)", api.OK, api.OK},
		{"sort(sort)", "", "", api.ErrRule, api.ErrRule},
		{"eq(sort, sort)", "", "", api.ErrNone, api.ErrNone},
		{"flip(x, 1)", "", "", api.ErrNone, api.ErrNone},
		{"sort(Cons(True, Nil))", "", "", api.ErrNone, api.ErrNone},
	} {
		checkPlaces(t, w, m, funs, x)
	}
}

// P4.7: which error comes first.
func TestPlaceErrors(t *testing.T) {
	const source = "data A a = A(a); data B a = B(a); data C a = C(a); f(x) = x; g(x) = 1; e(x, y) = x; wide(x, y, z, u) = w; "
	m, w := mustModule(t, source), tallWorld(t)
	wrong := mustModule(t, source+"bad = 1 + True;")
	long := mustModule(t, source+"five(x) = A(A(A(A(A(x))))); deep(x) = five(five(five(five(x))));")
	notRight := w
	notRight.Above, notRight.Insts = [][]int{{}, {0}, {}}, slices.Delete(slices.Clone(w.Insts), 3, 4)
	notFormed := w
	notFormed.Above = [][]int{{}, {0}}
	other := w
	other.Datas = mustModule(t, "data A a = A(a); data B a = B(a); data D a = D(a);").Datas
	good := funsOf(m, needing{"f", "0 ?0"}, needing{"g", "0 ?0"})
	bad := []api.ClassFun{{Fun: -1}}
	goal := func(source string) api.Term { return mustGoal(t, m, source) }
	manyVars := goal("wide(x, wide(a, b, c, d), wide(h, i, j, k), wide(l, m, n, wide(o, p, q, r)))")
	for i, x := range []struct {
		w            api.ClassWorld
		m            api.ReadModule
		funs         []api.ClassFun
		t            api.Term
		needs, place api.Errno
	}{
		{w, m, good, goal("f(x)"), api.OK, api.OK},
		{w, m, nil, goal("f(x)"), api.OK, api.OK},
		{notFormed, m, good, goal("f(x)"), api.ErrArg, api.ErrArg},
		{notFormed, wrong, good, goal("f(x)"), api.ErrArg, api.ErrArg},
		{notRight, m, good, node(api.TermFun, 99), api.ErrArg, api.ErrArg},
		{notRight, api.ReadModule{}, good, goal("f(x)"), api.ErrArg, api.ErrArg},
		{w, m, good, api.Term{}, api.ErrArg, api.ErrArg},
		{w, wrong, bad, api.Term{}, api.ErrArg, api.ErrArg},
		{notRight, m, good, goal("f(x)"), api.ErrRule, api.ErrRule},
		{notRight, m, bad, goal("f(x)"), api.ErrRule, api.ErrRule},
		{notRight, long, bad, goal("f(x)"), api.ErrRule, api.ErrRule},
		{w, wrong, bad, goal("f(x)"), api.ErrRule, api.ErrRule},
		{w, long, bad, goal("f(x)"), api.ErrLong, api.ErrLong},
		{w, m, bad, goal("1 + True"), api.ErrRule, api.ErrRule},
		{w, m, bad, goal("e(" + nested("A", 8, "x") + ", 1)"), api.ErrArg, api.ErrArg},
		{other, m, good, goal("f(x)"), api.ErrArg, api.ErrArg},
		{other, m, nil, goal("f(x)"), api.ErrArg, api.ErrArg},
		{other, m, good, goal("1 + True"), api.ErrRule, api.ErrRule},
		{w, m, bad, manyVars, api.ErrArg, api.ErrArg},
		{w, m, good, manyVars, api.ErrLong, api.ErrLong},
		// Types of 8 and of 9 nodes, with and without functions that need something.
		{w, m, good, goal("f(" + nested("A", 7, "x") + ")"), api.OK, api.OK},
		{w, m, good, goal("f(" + nested("A", 8, "x") + ")"), api.ErrLong, api.ErrLong},
		{w, m, good, goal("e(" + nested("A", 8, "x") + ", 1)"), api.OK, api.OK},
		{w, m, good[1:], goal("f(" + nested("A", 8, "x") + ")"), api.OK, api.OK},
		{w, m, good, goal("f(True)"), api.ErrNone, api.ErrNone},
		{w, m, good, goal("e(f(True), f(" + nested("A", 8, "x") + "))"), api.ErrLong, api.ErrLong},
		{w, m, good, goal("e(f(" + nested("A", 8, "x") + "), f(True))"), api.ErrLong, api.ErrLong},
		// Nine predicates, of which none follows from others.
		{w, m, good, goal("e(f(C(B(x))), e(f(C(B(y))), f(C(B(z)))))"), api.OK, api.OK},
		{w, m, good, goal("e(f(C(C(x))), e(f(C(C(y))), f(C(C(z)))))"), api.ErrLong, api.ErrLong},
		{w, m, good, goal("e(f(C(C(x))), e(f(C(C(y))), e(f(C(C(z))), f(True))))"), api.ErrNone, api.ErrNone},
		{w, m, good, goal("e(f(C(C(x))), f(C(C(y))))"), api.OK, api.OK},
		// Dictionaries of 200 and of 201 steps.
		{w, m, good, goal("f(A(B(B(C(C(B(A(x))))))))"), api.OK, api.OK},
		{w, m, good, goal("f(B(C(B(C(B(A(x)))))))"), api.OK, api.ErrLong},
		{w, m, good, goal("f(B(C(B(C(B(A(1)))))))"), api.OK, api.ErrLong},
		{w, m, good, goal("e(f(x), f(B(C(B(C(B(A(y))))))))"), api.OK, api.ErrLong},
	} {
		context, e := class.Needs(x.w, x.m, x.funs, x.t)
		places, f := class.Put(x.w, x.m, x.funs, x.t)
		if e != x.needs || f != x.place {
			t.Error(i, e, f, "want", x.needs, x.place)
		}
		if e != api.OK && context != nil || f != api.OK && places != nil {
			t.Error(i, "more than an error", context, places)
		}
	}
}

// nested puts something into so many constructors.
func nested(con string, many int, inside string) string {
	for range many {
		inside = con + "(" + inside + ")"
	}
	return inside
}

// P4.7: functions that need something, formed or not.
func TestFunsFormed(t *testing.T) {
	m := mustModule(t, more+"f(x, y) = 1; g(x, y) = h(y, z); h(x, y) = g(u, v); k(x) = True;")
	w := worldOf(m.Datas, [][]int{{}, {}, {0}})
	types, e := kind.Types(m)
	if e != api.OK || show(m.Datas, types[2]) != "(?1 -> (?3 -> ?2))" {
		t.Fatal(e, show(m.Datas, types[2]))
	}
	one := func(class, v int) api.ClassPred { return pred(class, typeVar(v)) }
	fun := func(f int, needs ...api.ClassPred) api.ClassFun { return api.ClassFun{Fun: f, Needs: needs} }
	check := func(i int, x api.ClassWorld, funs []api.ClassFun, want api.Errno) {
		t.Helper()
		context, e := class.Needs(x, m, funs, num(1))
		places, f := class.Put(x, m, funs, num(1))
		if e != want || f != want || context != nil || places != nil {
			t.Error(i, e, f, "want", want)
		}
	}
	endless := arrow(integers(), integers())
	endless.Parts[1] = endless
	for i, funs := range [][]api.ClassFun{
		nil, {}, {fun(0)}, {fun(0), fun(1), fun(2), fun(3)}, {fun(3)}, {fun(0, one(0, 0), one(0, 1), one(2, 0))}, {fun(0, one(0, 1), one(1, 0), one(2, 1))},
		{fun(2, one(0, 1), one(0, 2), one(0, 3))}, {fun(1, one(2, 1)), fun(3, one(2, 0))},
		{fun(0, api.ClassPred{Type: api.KindType{Sort: api.KindVar, Parts: []api.KindType{}}})},
	} {
		check(i, w, funs, api.OK)
	}
	for i, funs := range [][]api.ClassFun{
		{fun(-1)}, {fun(4)}, {fun(1 << 62)}, {fun(0), fun(0)}, {fun(1), fun(0)}, {fun(0), fun(2), fun(1)}, {fun(0), fun(1), fun(2), fun(3), fun(4)}, make([]api.ClassFun, 1<<16),
		{fun(0, one(0, 2))}, {fun(0, one(0, -1))}, {fun(2, one(0, 0))}, {fun(2, one(0, 4))}, {fun(3, one(0, 1))}, {fun(0, one(3, 0))}, {fun(0, one(-1, 0))},
		{fun(0, pred(0, integers()))}, {fun(0, pred(0, ofData(1, typeVar(0))))}, {fun(0, pred(0, api.KindType{}))}, {fun(0, pred(0, endless))}, {fun(0, api.ClassPred{Type: api.KindType{Sort: api.KindVar, Parts: types}})},
		{fun(0, one(0, 0), one(0, 0))}, {fun(0, one(1, 0), one(0, 1))}, {fun(0, one(0, 1), one(0, 0))}, {fun(0, one(0, 0), one(0, 1), one(1, 0), one(1, 1))}, {fun(1), fun(2, make([]api.ClassPred, 1<<16)...)},
	} {
		check(i, w, funs, api.ErrArg)
	}
	// The data types of the world and of the module.
	same := worldOf(mustModule(t, more).Datas, w.Above)
	same.Datas[0].Cons[0], same.Datas[0].Cons[1], same.Datas[1].Cons[0] = []api.KindType{}, nil, []api.KindType{}
	same.Datas[1].Cons[1][0].Parts = []api.KindType{}
	check(0, same, nil, api.OK)
	for i, change := range []func(d []api.KindData){
		func(d []api.KindData) { d[1].Name = "Lists" },
		func(d []api.KindData) { d[4].Params = 2 },
		func(d []api.KindData) { d[1].Cons[1][0] = integers() },
		func(d []api.KindData) { d[1].Cons[1][1] = ofData(1, integers()) },
		func(d []api.KindData) { d[2].Cons[0] = []api.KindType{typeVar(1), typeVar(0)} },
		func(d []api.KindData) { d[3].Cons[0] = []api.KindType{integers()} },
		func(d []api.KindData) { d[3].Cons = d[3].Cons[:1] },
		func(d []api.KindData) { d[4].Cons = append(d[4].Cons, nil) },
	} {
		other := worldOf(mustModule(t, more).Datas, w.Above)
		change(other.Datas)
		if _, e := class.Check(other); e != api.OK {
			t.Error(i, e)
		}
		check(i, other, nil, api.ErrArg)
	}
	fewer := worldOf(mustModule(t, more).Datas, w.Above)
	fewer.Datas = fewer.Datas[:5]
	check(0, fewer, nil, api.ErrArg)
}

// calls is a module whose functions need something in random tests.
const calls = more + `sort(Nil) = Nil; sort(Cons(h, t)) = Cons(h, sort(t));
eq(x, y) = x =:= y;
id(x) = x;
any = x;
map(f, Nil) = Nil; map(f, Cons(h, t)) = Cons(f @ h, map(f, t));
tri(x, y) = Tri(x, y, x);
flip(x, y) = flop(y, x); flop(x, y) = flip(y, x);
`

// expression makes one for a module; most have a type.
func (m maker) expression(of api.ReadModule) api.Term {
	for {
		made := m.anyTerm(of.Prog.Sig, 4)
		_, _, e := kind.Infer(of, made)
		if e == api.OK && made.Op == api.TermFun || m.Intn(100) == 0 && e != api.ErrArg {
			return made
		}
	}
}

// anyTerm makes an expression of at most so much depth.
func (m maker) anyTerm(s api.TermSig, deep int) api.Term {
	pick := m.Intn(12)
	if deep == 1 && pick < 9 {
		pick = 9 + m.Intn(3)
	}
	sub := func(many int) []api.Term {
		var list []api.Term
		for range many {
			list = append(list, m.anyTerm(s, deep-1))
		}
		return list
	}
	switch {
	case pick < 5:
		n := m.Intn(len(s.Funs))
		return node(api.TermFun, n, sub(s.Funs[n].Args)...)
	case pick < 8:
		n := m.Intn(len(s.Cons))
		return node(api.TermCon, n, sub(s.Cons[n].Args)...)
	case pick == 8:
		op := []api.TermOp{api.TermApply, api.TermOr, api.TermLet, api.TermUnify}[m.Intn(4)]
		return node(op, 0, sub(2)...)
	case pick == 9:
		return num(m.Intn(3))
	case pick == 10:
		n := m.Intn(len(s.Funs))
		if s.Funs[n].Args > 0 {
			return node(api.TermPart, n, sub(m.Intn(s.Funs[n].Args)*min(1, deep-1))...)
		}
	}
	return node(api.TermVar, m.Intn(4))
}

// funs returns some functions that need something, for a world and a module.
func (m maker) funs(w api.ClassWorld, types []api.KindType) []api.ClassFun {
	var list []api.ClassFun
	for f, t := range types {
		var needs []api.ClassPred
		for _, p := range m.needs(len(w.Above), 4) {
			if slices.Contains(typeVars(t), p.Type.N) {
				needs = append(needs, p)
			}
		}
		if m.Intn(3) > 0 {
			list = append(list, api.ClassFun{Fun: f, Needs: needs})
		}
	}
	return list
}

func typeVars(t api.KindType) []int {
	if t.Sort == api.KindVar {
		return []int{t.N}
	}
	var list []int
	for _, p := range t.Parts {
		list = append(list, typeVars(p)...)
	}
	return list
}

// P4.7: random expressions in random worlds.
func TestRandomPlaces(t *testing.T) {
	t.Parallel()
	m := newMaker(t, 6)
	of := mustModule(t, calls)
	types, e := kind.Types(of)
	if e != api.OK {
		t.Fatal(e)
	}
	met, put := map[api.Errno]int{}, map[api.Errno]int{}
	needs, inside := 0, 0
	var pool []api.Term
	for range 500 {
		pool = append(pool, m.expression(of))
	}
	for range 700 {
		w := m.rightWorld()
		if len(w.Above) == 0 {
			continue
		}
		for range 3 {
			funs, x := m.funs(w, types), pool[m.Intn(len(pool))]
			context, e := class.Needs(w, of, funs, x)
			places, f := class.Put(w, of, funs, x)
			wantContext, wantPlaces, wantE, wantF := refPlaces(w, of, funs, x)
			if e != wantE || f != wantF || showPreds(w.Datas, context) != showPreds(w.Datas, wantContext) || showPlaces(places) != showPlaces(wantPlaces) {
				t.Fatal(e, f, showPreds(w.Datas, context), showPlaces(places), "want", wantE, wantF, showPreds(w.Datas, wantContext), showPlaces(wantPlaces), showTerm(x), showFuns(w.Datas, funs), showWorld(w))
			}
			met[e]++
			put[f]++
			needs += len(context)
			for _, p := range places {
				inside += len(p.Dicts)
			}
		}
	}
	t.Log(met, put, needs, inside)
	if met[api.OK] < 700 || met[api.ErrNone] < 200 || met[api.ErrRule] < 10 || met[api.ErrLong] < 5 || needs < 400 || inside < 400 {
		t.Error("too few of some kind", met, put, needs, inside)
	}
}
