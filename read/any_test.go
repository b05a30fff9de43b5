package read_test

import (
	"math"
	"math/rand"
	"strings"
	"testing"

	"swingle/api"
	"swingle/claims"
	"swingle/read"
)

// endless returns an expression that leads back to itself.
func endless(op api.TermOp, n, wide int) api.Term {
	t := api.Term{Op: op, N: n, Kids: make([]api.Term, wide)}
	for i := range t.Kids {
		t.Kids[i] = t
	}
	return t
}

// endlessType returns a type that leads back to itself.
func endlessType(sort api.KindSort, n, wide int) api.KindType {
	t := api.KindType{Sort: sort, N: n, Parts: make([]api.KindType, wide)}
	for i := range t.Parts {
		t.Parts[i] = t
	}
	return t
}

// checkRefused fails if one of the functions takes a module that is not formed, or returns more than ErrArg.
func checkRefused(t *testing.T, what any, m api.ReadModule) {
	t.Helper()
	n, e := read.Normal(m)
	text, f := read.PrintModule(m)
	if e != api.ErrArg || f != api.ErrArg || text != "" || n.Datas != nil || n.Prog.Sig.Cons != nil || n.Prog.Sig.Funs != nil || n.Prog.Rules != nil {
		t.Error(what, e, f, text, n)
	}
}

// checkProgRefused does so for a program.
func checkProgRefused(t *testing.T, what any, p api.RuleProg) {
	t.Helper()
	for _, source := range []string{"1", "%", strings.Repeat(" ", api.ReadLong+1)} {
		made, names, e := read.Goal(p, source)
		if e != api.ErrArg || show(made) != "" || names != nil {
			t.Error(what, e, show(made), names)
		}
	}
	if text, e := read.PrintGoal(p, num(1)); e != api.ErrArg || text != "" {
		t.Error(what, e, text)
	}
}

// checkDatasRefused does so for data types.
func checkDatasRefused(t *testing.T, what any, datas []api.KindData) {
	t.Helper()
	for _, source := range []string{"int", "%", strings.Repeat(" ", api.ReadLong+1)} {
		if made, e := read.Type(datas, source); e != api.ErrArg || showType(made) != showType(api.KindType{}) {
			t.Error(what, e, showType(made))
		}
	}
	if text, e := read.PrintType(datas, integers()); e != api.ErrArg || text != "" {
		t.Error(what, e, text)
	}
}

// P2.2, P2.3, P2.4, P0.11: modules, programs and data types that are not formed are refused wherever they are handed over.
func TestNotFormed(t *testing.T) {
	for i, change := range []func(m *api.ReadModule){
		func(m *api.ReadModule) { m.Datas = nil },
		func(m *api.ReadModule) { m.Datas = m.Datas[1:] },
		func(m *api.ReadModule) { m.Datas[0].Name = "bool" },
		func(m *api.ReadModule) { m.Datas[1].Name = "" },
		func(m *api.ReadModule) { m.Datas[1].Params = 0 },
		func(m *api.ReadModule) { m.Datas[1].Cons[1][1] = endlessType(api.KindFun, 0, 2) },
		func(m *api.ReadModule) { m.Datas[1].Cons[1][1] = endlessType(api.KindOfData, 1, 1) },
		func(m *api.ReadModule) { m.Datas[1].Cons[1][1] = ofData(1, endlessType(api.KindVar, 0, 1)) },
		func(m *api.ReadModule) { m.Datas = make([]api.KindData, 1<<20) },
		func(m *api.ReadModule) { m.Datas[1].Cons = make([][]api.KindType, 1<<20) },
	} {
		m := listsModule(t)
		change(&m)
		checkDatasRefused(t, i, m.Datas)
		checkRefused(t, i, m)
	}
	for i, change := range []func(p *api.RuleProg){
		func(p *api.RuleProg) { p.Sig = api.TermSig{} },
		func(p *api.RuleProg) { p.Sig.Cons[2].Name = "Cons" },
		func(p *api.RuleProg) { p.Rules = make([]api.RuleRule, 1<<20) },
		func(p *api.RuleProg) { p.Rules[0].Fun = 3 },
		func(p *api.RuleProg) { p.Rules[0].Pats = nil },
		func(p *api.RuleProg) { p.Rules[0].Pats[0] = num(1) },
		func(p *api.RuleProg) { p.Rules[0].Pats[0] = endless(api.TermCon, 3, 2) },
		func(p *api.RuleProg) { p.Rules[0].Pats = make([]api.Term, 1<<20) },
		func(p *api.RuleProg) { p.Rules[0].Rhs = endless(api.TermOr, 0, 2) },
		func(p *api.RuleProg) { p.Rules[0].Rhs = node(api.TermBot, 0) },
		func(p *api.RuleProg) { p.Rules[0].Vars = 0 },
		func(p *api.RuleProg) { p.Rules[0].Vars = 21 },
	} {
		m := listsModule(t)
		change(&m.Prog)
		checkProgRefused(t, i, m.Prog)
		checkRefused(t, i, m)
	}
	// What does not fit together.
	m := listsModule(t)
	m.Prog.Sig.Cons = append(m.Prog.Sig.Cons, api.TermName{Name: "More"})
	checkRefused(t, "one constructor more", m)
	m = listsModule(t)
	m.Datas[1].Cons[0], m.Datas[1].Cons[1] = m.Datas[1].Cons[1], m.Datas[1].Cons[0]
	checkRefused(t, "other numbers of arguments", m)
	// Expressions and types.
	m = listsModule(t)
	for i, x := range []api.Term{{}, v(20), v(-1), num(1000001), con(4), node(api.TermFun, 3), node(api.TermFun, 2, num(1)), endless(api.TermOr, 0, 2), endless(api.TermVar, 0, 1), node(api.TermBot, 0), node(math.MaxInt, math.MinInt)} {
		if text, e := read.PrintGoal(m.Prog, x); e != api.ErrArg || text != "" {
			t.Error(i, e, text)
		}
	}
	for i, x := range []api.KindType{{}, typeVar(20), typeVar(-1), ofData(1), ofData(2), ofData(0, typeVar(0)), endlessType(api.KindFun, 0, 2), endlessType(api.KindInt, 0, 1), {Sort: api.KindInt, N: 1}, {Sort: math.MaxInt}, {Sort: math.MinInt}} {
		if text, e := read.PrintType(m.Datas, x); e != api.ErrArg || text != "" {
			t.Error(i, e, text)
		}
	}
}

// P0.11: any bytes, and any tokens, are sources; what two calls return is the same (R8).
func TestAnySource(t *testing.T) {
	r := rand.New(rand.NewSource(6))
	m := listsModule(t)
	words := strings.Fields("a b app coin x List Cons Nil Bool int data let in when then 0 1 ~5 ; = | ( ) , -> =:= == < + - ? & @ # %")
	for range 5000 {
		var source string
		switch r.Intn(3) {
		case 0:
			bytes := make([]byte, r.Intn(40))
			for i := range bytes {
				bytes[i] = byte(r.Intn(256))
			}
			source = string(bytes)
		case 1:
			for range r.Intn(30) {
				source += words[r.Intn(len(words))] + " "
			}
		default:
			at, to := r.Intn(len(lists)), r.Intn(len(lists))
			source = lists[:at] + lists[to:]
		}
		checkSource(t, m, source)
	}
	for _, source := range []string{tower(1500, "(", "", ")"), tower(2999, "(", "x", ""), tower(999, "f((", "x", ""), strings.Repeat("f=", 1500), strings.Repeat("a->", 1000), tower(375, "let a=b ", "", ""), tower(600, "when ", "", ""), strings.Repeat("1-", 1499) + "1", strings.Repeat("1?", 1499) + "1"} {
		checkSource(t, m, source)
	}
}

// checkSource calls all that reads, twice.
func checkSource(t *testing.T, m api.ReadModule, source string) {
	t.Helper()
	texts := func() string {
		list, a := read.Tokens(source)
		stop, b := read.Stop(source)
		module, c := read.Module(source)
		spots, d := read.Spots(source)
		goal, names, e := read.Goal(m.Prog, source)
		kind, f := read.Type(m.Datas, source)
		for _, zero := range []bool{a == api.OK || list == nil, b == api.OK || stop == 0, c == api.OK || module.Datas == nil, d == api.OK || spots == nil, e == api.OK || show(goal) == "" && names == nil, f == api.OK || kind.Sort == 0} {
			if !zero {
				t.Fatalf("%q: a result with an error", source)
			}
		}
		if (a == api.ErrText) != (b == api.OK) || c != d {
			t.Fatalf("%q: %v %v, %v %v", source, a, b, c, d)
		}
		return showModule(module) + joined(spots, showSpot) + show(goal) + strings.Join(names, " ") + showType(kind) + string(rune(a)) + string(rune(c)) + string(rune(e)) + string(rune(f))
	}
	if texts() != texts() {
		t.Fatalf("%q: two calls return different results", source)
	}
}

func claimModule(m claims.Memory, x api.ReadModule) {
	claims.List(m, x.Datas)
	for _, d := range x.Datas {
		claims.List(m, d.Cons)
		for _, types := range d.Cons {
			m.Types(types)
		}
	}
	m.Program(x.Prog)
}

// R4: no argument is changed, and results share no memory with arguments, or with each other.
func TestMemory(t *testing.T) {
	r := rand.New(rand.NewSource(7))
	mem := claims.New(t.Fatal)
	for range 50 {
		m := randomModule(r)
		before := showModule(m)
		normal, e := read.Normal(m)
		again, f := read.Normal(m)
		text, g := read.PrintModule(m)
		if e != api.OK || f != api.OK || g != api.OK || showModule(m) != before {
			t.Fatal(e, f, g, showModule(m), before)
		}
		for _, x := range []api.ReadModule{m, normal, again} {
			claimModule(mem, x)
		}
		if len(text) > api.ReadLong {
			continue
		}
		for range 2 {
			x := mustModule(t, text)
			claimModule(mem, x)
		}
	}
	m := listsModule(t)
	before := showModule(m)
	for range 2 {
		goal, names, e := read.Goal(m.Prog, "let x = app in Cons(x, y) ? Cons(x, y)")
		kind, f := read.Type(m.Datas, "List(a) -> List(a) -> List(List(b))")
		spots, g := read.Spots(lists)
		list, h := read.Tokens(lists)
		if e != api.OK || f != api.OK || g != api.OK || h != api.OK {
			t.Fatal(e, f, g, h)
		}
		mem.Terms(goal.Kids)
		mem.Types(kind.Parts)
		claims.List(mem, names)
		claims.List(mem, spots)
		claims.List(mem, list)
	}
	claimModule(mem, m)
	if showModule(m) != before {
		t.Error(showModule(m))
	}
}
