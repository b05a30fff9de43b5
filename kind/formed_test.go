package kind_test

import (
	"math"
	"slices"
	"testing"

	"swingle/api"
	"swingle/kind"
)

// long is a type of an odd number of nodes: so many that are arrows, and one more that are not.
func long(arrows int) api.KindType {
	if arrows == 0 {
		return typeVar(0)
	}
	return arrow(typeVar(0), long(arrows-1))
}

// deep is a type of so many nodes, one in the other one.
func deep(nodes int) api.KindType {
	if nodes == 1 {
		return typeVar(0)
	}
	return ofData(1, deep(nodes-1))
}

// endlessType leads back to itself.
func endlessType(sort api.KindSort, n, wide int) api.KindType {
	t := api.KindType{Sort: sort, N: n, Parts: make([]api.KindType, wide)}
	for i := range t.Parts {
		t.Parts[i] = t
	}
	return t
}

// badTypes are not formed, with the data types of more.
func badTypes() []api.KindType {
	return []api.KindType{
		{}, {Sort: 5}, {Sort: -1}, {Sort: math.MaxInt, N: math.MinInt},
		typeVar(-1), typeVar(20), typeVar(math.MaxInt), {Sort: api.KindVar, Parts: []api.KindType{integers()}},
		{Sort: api.KindInt, N: 1}, {Sort: api.KindInt, N: -1}, {Sort: api.KindInt, Parts: []api.KindType{integers()}},
		{Sort: api.KindFun}, {Sort: api.KindFun, N: 1, Parts: []api.KindType{integers(), integers()}}, {Sort: api.KindFun, Parts: []api.KindType{integers()}}, {Sort: api.KindFun, Parts: []api.KindType{integers(), integers(), integers()}},
		ofData(-1), ofData(6), ofData(math.MinInt), ofData(0, integers()), ofData(1), ofData(1, integers(), integers()), ofData(2, integers()),
		arrow(integers(), typeVar(20)), arrow(ofData(1), integers()), ofData(1, ofData(1, api.KindType{})), long(10), deep(21),
		endlessType(api.KindFun, 0, 2), endlessType(api.KindOfData, 1, 1), endlessType(api.KindVar, 0, 1), endlessType(api.KindInt, 0, 3),
	}
}

// badDatas returns data types that are not formed, each with one thing wrong.
func badDatas(t *testing.T) [][]api.KindData {
	t.Helper()
	type change func(d []api.KindData) []api.KindData
	name := func(n int, name string) change {
		return func(d []api.KindData) []api.KindData { d[n].Name = name; return d }
	}
	cons := func(n int, cons ...[]api.KindType) change {
		return func(d []api.KindData) []api.KindData { d[n].Cons = cons; return d }
	}
	list := []change{
		func([]api.KindData) []api.KindData { return nil },
		func(d []api.KindData) []api.KindData { return d[1:] },
		func(d []api.KindData) []api.KindData {
			return append(d, api.KindData{Name: "More", Cons: [][]api.KindType{nil}})
		},
		func(d []api.KindData) []api.KindData { return make([]api.KindData, 1<<16) },
		func(d []api.KindData) []api.KindData { d[0].Params = 1; return d },
		func(d []api.KindData) []api.KindData { d[1].Params = 4; return d },
		func(d []api.KindData) []api.KindData { d[5].Params = -1; return d },
		func(d []api.KindData) []api.KindData { d[1].Params = 0; return d },
		func(d []api.KindData) []api.KindData { d[3].Params = math.MaxInt; return d },
		name(0, "Boo"), name(0, ""), name(1, ""), name(1, "Abcdefghi"), name(1, "A1"), name(1, "Bool"), name(2, "List"), name(1, "A b"), name(1, "É"), name(1, "a_"),
		cons(0, nil), cons(0, nil, nil, nil), cons(0, nil, []api.KindType{integers()}), cons(0, []api.KindType{integers()}, nil), cons(0),
		cons(3), cons(3, make([][]api.KindType, 6)...), cons(3, make([][]api.KindType, 1<<16)...), cons(3, slices.Repeat([]api.KindType{integers()}, 5)), cons(3, make([]api.KindType, 1<<16)),
		cons(3, []api.KindType{typeVar(0)}), cons(1, []api.KindType{typeVar(1)}), cons(2, []api.KindType{ofData(1, typeVar(2))}), cons(2, []api.KindType{long(10)}),
	}
	for _, bad := range badTypes() {
		list = append(list, cons(1, nil, []api.KindType{integers(), bad}))
	}
	return each(list, func(x change) []api.KindData { return x(mustModule(t, more).Datas) })
}

// P3.1: CheckDatas.
func TestCheckDatas(t *testing.T) {
	good := func() []api.KindData { return mustModule(t, more).Datas }
	for i, datas := range [][]api.KindData{
		good(), good()[:1],
		mustModule(t, "data A a b c = Aa(a, b, c, A(b, c, a)) | Ab;").Datas,
		mustModule(t, "data A = Ba(B); data B = Aa(A);").Datas,
		mustModule(t, "data Abcdefgh = A(int, int -> int, Bool, Abcdefgh);").Datas,
		mustModule(t, "data A = A | B | C | D | E | F | G | H | I | J;").Datas,
		append(good()[:2], api.KindData{Name: "aBz", Cons: [][]api.KindType{{}}}),
		append(good()[:2], api.KindData{Name: "bool", Params: 1, Cons: [][]api.KindType{{deep(20)}, {long(9)}}}),
	} {
		if e := kind.CheckDatas(datas); e != api.OK {
			t.Error(i, e)
		}
	}
	for i, datas := range badDatas(t) {
		if e := kind.CheckDatas(datas); e != api.ErrArg {
			t.Error(i, e, datas)
		}
	}
}

// P3.1: Check.
func TestCheck(t *testing.T) {
	datas := mustModule(t, more).Datas
	for _, x := range []api.KindType{typeVar(0), typeVar(19), integers(), ofData(0), ofData(1, typeVar(19)), ofData(2, integers(), typeVar(3)), ofData(3), arrow(integers(), arrow(typeVar(2), integers())), long(9), deep(20), {Sort: api.KindInt, Parts: []api.KindType{}}} {
		if e := kind.Check(datas, x); e != api.OK {
			t.Error(e, show(datas, x))
		}
	}
	for i, x := range badTypes() {
		if e := kind.Check(datas, x); e != api.ErrArg {
			t.Error(i, e)
		}
	}
	for i, bad := range badDatas(t) {
		if e := kind.Check(bad, integers()); e != api.ErrArg {
			t.Error(i, e)
		}
	}
}

// badProgs returns programs that are not formed, with the constructors of M.
func badProgs(t *testing.T) []api.RuleProg {
	t.Helper()
	type change func(p *api.RuleProg)
	rule := func(r api.RuleRule) change {
		return func(p *api.RuleProg) { p.Rules = append(p.Rules, r) }
	}
	endless := node(api.TermOr, 0, num(1), num(1))
	endless.Kids[0] = endless
	list := []change{
		func(p *api.RuleProg) { p.Sig = api.TermSig{} },
		func(p *api.RuleProg) { p.Sig.Cons[1].Name = "Truth" },
		func(p *api.RuleProg) { p.Sig.Cons[2].Name = "Cons" },
		func(p *api.RuleProg) { p.Sig.Funs[2].Name = "app" },
		func(p *api.RuleProg) { p.Sig.Funs[3].Args = 5 },
		func(p *api.RuleProg) { p.Sig.Funs = append(p.Sig.Funs, make([]api.TermName, 9)...) },
		func(p *api.RuleProg) { p.Rules = slices.Repeat(p.Rules, 4) },
		func(p *api.RuleProg) { p.Rules = make([]api.RuleRule, 1<<16) },
		func(p *api.RuleProg) { p.Rules[0].Fun = 4 },
		func(p *api.RuleProg) { p.Rules[0].Fun = -1 },
		func(p *api.RuleProg) { p.Rules[0].Pats = p.Rules[0].Pats[:1] },
		func(p *api.RuleProg) { p.Rules[1].Pats[1] = v(0) },
		func(p *api.RuleProg) { p.Rules[1].Pats[1] = num(1) },
		func(p *api.RuleProg) { p.Rules[1].Vars = 2 },
		func(p *api.RuleProg) { p.Rules[1].Vars = 21 },
	}
	for _, rhs := range []api.Term{{}, v(0), v(-1), node(api.TermBot, 0), num(1000001), con(4), con(3, num(1)), node(api.TermFun, 0), node(api.TermFun, 4), node(api.TermPart, 2), let(0, num(1), num(1)), endless} {
		list = append(list, rule(api.RuleRule{Fun: 2, Rhs: rhs}))
	}
	list = append(list, rule(api.RuleRule{Fun: 2, Rhs: or(let(0, num(1), v(0)), v(0)), Vars: 1}), rule(api.RuleRule{Fun: 1, Pats: []api.Term{v(0)}, Rhs: let(0, num(1), num(2)), Vars: 1}))
	return each(list, func(x change) api.RuleProg {
		p := mustModule(t, lists).Prog
		x(&p)
		return p
	})
}

// badModules returns modules that are not formed.
func badModules(t *testing.T) []api.ReadModule {
	t.Helper()
	var list []api.ReadModule
	for _, datas := range badDatas(t) {
		m := mustModule(t, more+"f = 1;")
		m.Datas = datas
		list = append(list, m)
	}
	for _, p := range badProgs(t) {
		m := mustModule(t, lists)
		m.Prog = p
		list = append(list, m)
	}
	for _, change := range []func(m *api.ReadModule){
		func(m *api.ReadModule) { m.Datas = m.Datas[:1] },
		func(m *api.ReadModule) { m.Prog.Sig.Cons = append(m.Prog.Sig.Cons, api.TermName{Name: "More"}) },
		func(m *api.ReadModule) {
			m.Datas = append(m.Datas, api.KindData{Name: "More", Cons: [][]api.KindType{nil}})
		},
		func(m *api.ReadModule) { slices.Reverse(m.Datas[1].Cons) },
		func(m *api.ReadModule) { m.Datas[1].Cons[1] = m.Datas[1].Cons[1][:1] },
		func(m *api.ReadModule) { m.Datas[1].Cons = m.Datas[1].Cons[:1] },
	} {
		m := mustModule(t, lists)
		change(&m)
		list = append(list, m)
	}
	return list
}

// P3.1: CheckModule.
func TestCheckModule(t *testing.T) {
	for i, source := range []string{"", lists, more, more + "f = 1;", "f(x) = x @ x;", "f = 1; f = True;"} {
		if e := kind.CheckModule(mustModule(t, source)); e != api.OK {
			t.Error(i, e)
		}
	}
	for i, m := range badModules(t) {
		if e := kind.CheckModule(m); e != api.ErrArg {
			t.Error(i, e)
		}
	}
}
