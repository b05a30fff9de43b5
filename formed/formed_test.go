package formed_test

import (
	"math"
	"testing"

	"swingle/api"
	"swingle/build"
	"swingle/formed"
)

// Short names.
var (
	typeVar  = build.TypeVar
	integers = build.Integers
	arrow    = build.Arrow
	ofData   = build.OfData
	node     = build.Node
	v        = build.Var
	num      = build.Num
	con      = build.Con
	let      = build.Let
	or       = build.Or
)

func types(list ...api.KindType) []api.KindType { return list }

// datas are Bool, List with one parameter, and Pair with two.
func datas() []api.KindData {
	return []api.KindData{
		{Name: "Bool", Cons: [][]api.KindType{nil, {}}},
		{Name: "List", Params: 1, Cons: [][]api.KindType{nil, types(typeVar(0), ofData(1, typeVar(0)))}},
		{Name: "Pair", Params: 2, Cons: [][]api.KindType{types(typeVar(0), typeVar(1), arrow(integers(), ofData(0)))}},
	}
}

// long is a type with so many nodes, of which half are arrows.
func long(nodes int) api.KindType {
	if nodes < 3 {
		return typeVar(0)
	}
	return arrow(typeVar(0), long(nodes-2))
}

// deep is a type of so many nodes, one in the other one.
func deep(nodes int) api.KindType {
	if nodes == 1 {
		return typeVar(0)
	}
	return ofData(1, deep(nodes-1))
}

// more returns data types with another one, which has so many constructors.
func more(datas []api.KindData, name string, cons int) []api.KindData {
	return append(datas, api.KindData{Name: name, Cons: make([][]api.KindType, cons)})
}

func TestDatas(t *testing.T) {
	arg := func(to api.KindType) func(d []api.KindData) []api.KindData {
		return func(d []api.KindData) []api.KindData {
			d[1].Cons[1][0] = to
			return d
		}
	}
	type change func(d []api.KindData) []api.KindData
	for i, x := range []change{
		func(d []api.KindData) []api.KindData { return d },
		func(d []api.KindData) []api.KindData { return d[:1] },
		func(d []api.KindData) []api.KindData { d[1].Name = "a"; return d },
		func(d []api.KindData) []api.KindData { d[1].Name = "aZAzaaaa"; return d },
		func(d []api.KindData) []api.KindData { d[1].Params = 3; return append(d[:1], data(3)) },
		func(d []api.KindData) []api.KindData { return more(more(more(d, "A", 1), "B", 1), "C", 1) },
		func(d []api.KindData) []api.KindData { return more(d, "A", 7) },
		func(d []api.KindData) []api.KindData {
			d[2].Cons[0] = types(integers(), integers(), integers(), integers())
			return d
		},
		arg(deep(20)), arg(long(19)), arg(ofData(2, typeVar(0), integers())), arg(ofData(0)),
	} {
		if d := x(datas()); !formed.Datas(d) {
			t.Error(i, "is formed:", d)
		}
	}
	for i, x := range []change{
		func(d []api.KindData) []api.KindData { return nil },
		func(d []api.KindData) []api.KindData { return d[1:] },
		func(d []api.KindData) []api.KindData { d[0].Name = "bool"; return d },
		func(d []api.KindData) []api.KindData { d[0].Params = 1; return d },
		func(d []api.KindData) []api.KindData { d[0].Cons = d[0].Cons[:1]; return d },
		func(d []api.KindData) []api.KindData { d[0].Cons = append(d[0].Cons, nil); return d },
		func(d []api.KindData) []api.KindData { d[0].Cons[0] = types(integers()); return d },
		func(d []api.KindData) []api.KindData { d[0].Cons[1] = types(integers()); return d },
		func(d []api.KindData) []api.KindData { d[1].Name = "Bool"; return d },
		func(d []api.KindData) []api.KindData { d[1].Name = "Pair"; return d },
		func(d []api.KindData) []api.KindData { d[1].Name = ""; return d },
		func(d []api.KindData) []api.KindData { d[1].Name = "Abcdefghi"; return d },
		func(d []api.KindData) []api.KindData { d[1].Name = "A1"; return d },
		func(d []api.KindData) []api.KindData { d[1].Name = "A b"; return d },
		func(d []api.KindData) []api.KindData { d[1].Name = "A@"; return d },
		func(d []api.KindData) []api.KindData { d[1].Name = "A["; return d },
		func(d []api.KindData) []api.KindData { d[1].Name = "A`"; return d },
		func(d []api.KindData) []api.KindData { d[1].Name = "A{"; return d },
		func(d []api.KindData) []api.KindData { d[1].Name = "é"; return d },
		func(d []api.KindData) []api.KindData { return append(d[:1], data(-1)) },
		func(d []api.KindData) []api.KindData { return append(d[:1], data(4)) },
		func(d []api.KindData) []api.KindData { return more(d, "A", 0) },
		func(d []api.KindData) []api.KindData { return more(d, "A", 8) },
		func(d []api.KindData) []api.KindData { return more(more(d, "A", 4), "B", 4) },
		func(d []api.KindData) []api.KindData {
			return more(more(more(more(d, "A", 1), "B", 1), "C", 1), "D", 1)
		},
		func(d []api.KindData) []api.KindData {
			d[2].Cons[0] = types(integers(), integers(), integers(), integers(), integers())
			return d
		},
		arg(deep(21)), arg(long(21)), arg(typeVar(1)), arg(typeVar(-1)), arg(arrow(integers(), typeVar(1))), arg(ofData(3)), arg(ofData(1)), arg(ofData(0, typeVar(0))), arg(api.KindType{}),
	} {
		if d := x(datas()); formed.Datas(d) {
			t.Error(i, "is not formed:", d)
		}
	}
}

func data(params int) api.KindData {
	return api.KindData{Name: "T", Params: params, Cons: [][]api.KindType{nil}}
}

func TestType(t *testing.T) {
	for i, x := range types(typeVar(0), typeVar(19), integers(), ofData(0), ofData(1, typeVar(7)), ofData(2, typeVar(7), integers()), arrow(integers(), typeVar(3)), long(19), deep(20)) {
		if !formed.Type(datas(), x) {
			t.Error(i, x)
		}
	}
	endless := arrow(integers(), integers())
	endless.Parts[0], endless.Parts[1] = endless, endless
	for i, x := range types(api.KindType{}, typeVar(20), typeVar(-1), ofData(0, integers()), ofData(1), ofData(1, integers(), integers()), ofData(3), ofData(-1), long(21), deep(21), endless, ofData(1, ofData(3)),
		api.KindType{Sort: api.KindInt, N: 1}, api.KindType{Sort: api.KindInt, Parts: types(integers())}, api.KindType{Sort: api.KindVar, Parts: types(integers())},
		api.KindType{Sort: api.KindFun, N: 1, Parts: types(integers(), integers())}, api.KindType{Sort: api.KindFun, Parts: types(integers())}, api.KindType{Sort: api.KindFun, Parts: types(integers(), integers(), integers())},
		api.KindType{Sort: 5}, api.KindType{Sort: -1}, api.KindType{Sort: math.MaxInt, N: math.MinInt}) {
		if formed.Type(datas(), x) {
			t.Error(i, x)
		}
	}
}

// program has the constructors of datas, a function with two arguments, and one without.
func program(rules ...api.RuleRule) api.RuleProg {
	return api.RuleProg{Sig: api.TermSig{
		Cons: []api.TermName{{Name: "False"}, {Name: "True"}, {Name: "Nil"}, {Name: "Cons", Args: 2}, {Name: "Pair", Args: 3}},
		Funs: []api.TermName{{Name: "f", Args: 2}, {Name: "g"}},
	}, Rules: rules}
}

func rule(fun, vars int, rhs api.Term, pats ...api.Term) api.RuleRule {
	return api.RuleRule{Fun: fun, Vars: vars, Rhs: rhs, Pats: pats}
}

func TestProgram(t *testing.T) {
	cons := con(3, v(0), v(1))
	for i, r := range []api.RuleRule{
		rule(1, 0, num(1)),
		rule(1, 20, v(19)),
		rule(0, 3, v(0), cons, v(2)),
		rule(0, 20, v(5), v(18), v(19)),
		rule(0, 20, num(1), con(2), con(3, con(1), v(7))),
		rule(0, 4, let(2, v(0), v(2)), v(0), v(1)),
		rule(0, 4, let(2, v(0), let(3, v(2), or(v(2), v(3)))), v(0), v(1)),
		rule(1, 2, or(let(0, v(1), or(v(0), v(0))), v(1))),
		rule(1, 2, or(let(0, num(1), v(0)), let(1, num(1), v(1)))),
		rule(1, 1, let(0, num(1), num(2))),
	} {
		if !formed.Program(program(r)) || !formed.Program(program(rule(1, 0, num(1)), r)) {
			t.Error(i, r)
		}
	}
	for i, r := range []api.RuleRule{
		rule(-1, 0, num(1)), rule(2, 0, num(1)), rule(math.MaxInt, 0, num(1)),
		rule(0, 1, num(1), v(0)), rule(0, 3, num(1), v(0), v(1), v(2)), rule(1, 1, num(1), v(0)),
		rule(1, -1, num(1)), rule(1, 21, num(1)),
		rule(1, 0, v(0)), rule(1, 19, v(19)), rule(0, 2, v(2), v(0), v(1)), rule(0, 2, or(v(1), v(2)), v(0), v(1)),
		rule(0, 1, num(1), v(0), v(1)), rule(0, 2, num(1), con(3, v(0), v(2)), v(1)),
		rule(0, 2, num(1), v(0), v(0)), rule(0, 2, num(1), cons, v(1)), rule(0, 2, num(1), con(3, v(0), v(0)), v(1)),
		rule(0, 2, num(1), num(1), v(0)), rule(0, 2, num(1), node(api.TermPart, 0), v(0)), rule(0, 2, num(1), node(api.TermFun, 1), v(0)),
		rule(0, 2, num(1), con(3, v(0)), v(1)), rule(0, 2, num(1), con(5), v(1)), rule(0, 2, num(1), v(-1), v(1)), rule(0, 20, num(1), v(20), v(1)), rule(0, 2, num(1), api.Term{}, v(1)),
		rule(1, 0, api.Term{}), rule(1, 0, node(api.TermBot, 0)), rule(1, 0, num(1000001)), rule(1, 20, v(20)),
		rule(1, 0, let(0, num(1), num(2))), rule(1, 2, let(2, num(1), num(2))),
		rule(0, 2, let(1, num(1), num(2)), v(0), v(1)), rule(0, 2, let(0, num(1), num(2)), cons, con(2)),
		rule(1, 2, let(0, num(1), let(0, num(1), num(2)))), rule(1, 2, or(let(0, num(1), num(2)), let(0, num(1), num(2)))), rule(1, 2, let(0, let(0, num(1), num(2)), num(2))),
		rule(1, 2, let(0, v(0), num(2))), rule(1, 2, let(0, v(0), v(0))), rule(1, 2, or(v(0), let(0, num(1), v(0)))), rule(1, 2, or(let(0, num(1), v(0)), v(0))), rule(1, 2, let(1, v(0), let(0, num(1), v(0)))),
	} {
		if formed.Program(program(r)) || formed.Program(program(rule(1, 0, num(1)), r)) {
			t.Error(i, r)
		}
	}
	many := make([]api.RuleRule, api.RuleRules+1)
	for i := range many {
		many[i] = rule(1, 0, num(i))
	}
	if !formed.Program(program()) || !formed.Program(program(many[1:]...)) || formed.Program(program(many...)) {
		t.Error("numbers of rules")
	}
	if bad := program(); formed.Program(api.RuleProg{}) || formed.Program(api.RuleProg{Sig: api.TermSig{Cons: bad.Sig.Cons[1:]}}) {
		t.Error("signatures")
	}
}

func TestArgs(t *testing.T) {
	s := program().Sig
	pair := func(a, b api.Term) []api.Term { return []api.Term{a, b} }
	for i, x := range []struct {
		fun  int
		args []api.Term
	}{{0, pair(v(19), num(-1000000))}, {0, pair(con(3, v(0), con(2)), node(api.TermPart, 0))}, {1, nil}, {1, []api.Term{}}} {
		if !formed.Args(s, x.fun, x.args) {
			t.Error(i, x)
		}
	}
	endless := con(3, num(1), num(1))
	endless.Kids[0], endless.Kids[1] = endless, endless
	for i, x := range []struct {
		fun  int
		args []api.Term
	}{
		{0, nil}, {0, pair(v(0), v(1))[:1]}, {0, append(pair(v(0), v(1)), v(2))}, {1, pair(v(0), v(1))}, {2, nil}, {-1, nil}, {math.MaxInt, nil}, {math.MinInt, nil}, {0, make([]api.Term, 1<<20)},
		{0, pair(v(20), v(0))}, {0, pair(v(0), num(1000001))}, {0, pair(node(api.TermFun, 1), v(0))}, {0, pair(v(0), or(v(0), v(1)))}, {0, pair(v(0), con(3, v(0)))}, {0, pair(v(0), endless)}, {0, pair(api.Term{}, v(0))},
	} {
		if formed.Args(s, x.fun, x.args) {
			t.Error(i, x)
		}
	}
	if formed.Args(api.TermSig{Funs: s.Funs}, 0, pair(v(0), v(0))) {
		t.Error("signatures")
	}
}

func TestModule(t *testing.T) {
	if !formed.Module(api.ReadModule{Datas: datas(), Prog: program(rule(1, 0, num(1)))}) {
		t.Error("a module is formed")
	}
	for i, change := range []func(m *api.ReadModule){
		func(m *api.ReadModule) { m.Datas[1].Name = "" },
		func(m *api.ReadModule) { m.Prog.Rules = []api.RuleRule{rule(2, 0, num(1))} },
		func(m *api.ReadModule) { m.Datas = m.Datas[:2] },
		func(m *api.ReadModule) { m.Prog.Sig.Cons = m.Prog.Sig.Cons[:4] },
		func(m *api.ReadModule) { m.Prog.Sig.Cons[4].Args = 2 },
		func(m *api.ReadModule) { m.Prog.Sig.Cons[2].Args = 1 },
		func(m *api.ReadModule) { m.Datas[1], m.Datas[2] = m.Datas[2], m.Datas[1] },
	} {
		m := api.ReadModule{Datas: datas(), Prog: program()}
		change(&m)
		if formed.Module(m) {
			t.Error(i, m)
		}
	}
}
