package logic_test

import (
	"math/rand"
	"slices"
	"testing"

	"swingle/api"
	"swingle/logic"
)

// kind is a type of values and expressions.
type kind int

const (
	nats kind = iota
	natLists
	truths
	ints
	functions // of a Nat
	kinds
)

// maker makes random expressions with environments, and proofs of them.
type maker struct {
	*rand.Rand
	api.RuleProg
	left int // how many more steps proofs can have
}

func newMaker(t *testing.T, seed int64) *maker {
	t.Helper()
	return &maker{Rand: rand.New(rand.NewSource(seed)), RuleProg: prog(t)}
}

// value makes a partial value of a kind.
func (m *maker) value(k kind, deep int) api.Term {
	switch n := m.Intn(8); {
	case n == 0:
		return bottom()
	case n < 3:
		return v(m.Intn(4) * 66)
	}
	return m.head(k, deep, m.value)
}

// total makes a value that is total.
func (m *maker) total(k kind, deep int) api.Term {
	if m.Intn(5) == 0 {
		return v(m.Intn(4) * 66)
	}
	return m.head(k, deep, m.total)
}

// head makes a value of a kind whose parts are made by of.
func (m *maker) head(k kind, deep int, of func(kind, int) api.Term) api.Term {
	small := deep == 0 || m.Intn(3) == 0
	switch {
	case k == nats && small:
		return zero()
	case k == nats:
		return succ(of(nats, deep-1))
	case k == natLists && small:
		return con(4)
	case k == natLists:
		first := of(nats, deep-1)
		return con(5, first, of(natLists, deep-1))
	case k == truths:
		return truth(m.Intn(3) > 0)
	case k == ints:
		return num(m.Intn(5) - 2)
	case small:
		return part(4)
	}
	return part(0, of(nats, deep-1))
}

// scope has the kinds of an expression's free variables.
type scope map[int]kind

func (s scope) with(n int, k kind) scope {
	made := scope{n: k}
	for v, has := range s {
		if v != n {
			made[v] = has
		}
	}
	return made
}

// some returns a variable of a kind, if there is one.
func (m *maker) some(s scope, k kind) (api.Term, bool) {
	var list []int
	for n, has := range s {
		if has == k {
			list = append(list, n)
		}
	}
	slices.Sort(list)
	if len(list) == 0 {
		return api.Term{}, false
	}
	return v(list[m.Intn(len(list))]), true
}

// expr makes an expression of a kind.
func (m *maker) expr(s scope, k kind, deep int) api.Term {
	if x, ok := m.some(s, k); ok && (deep <= 0 || m.Intn(6) == 0) {
		return x
	}
	if deep <= 0 {
		return m.head(k, 0, m.total)
	}
	two := func(op api.TermOp, a, b kind) api.Term {
		first := m.expr(s, a, deep-1)
		return node(op, 0, first, m.expr(s, b, deep-1))
	}
	switch m.Intn(12) {
	case 0:
		return two(api.TermOr, k, k)
	case 1:
		return two(api.TermWhen, truths, k)
	case 2, 3:
		n, bound := []int{0, 1, 7, 19}[m.Intn(4)], kind(m.Intn(int(kinds)))
		first := m.expr(s, bound, deep-1)
		return node(api.TermLet, n, first, m.expr(s.with(n, bound), k, deep-1))
	}
	return m.own(s, k, deep, two)
}

// own makes an expression that only one kind has.
func (m *maker) own(s scope, k kind, deep int, two func(api.TermOp, kind, kind) api.Term) api.Term {
	part0 := func(k kind) api.Term { return m.expr(s, k, deep-1) }
	n := m.Intn(7)
	switch {
	case k == nats && n < 2:
		return fun(0, part0(nats), part0(nats))
	case k == nats && n < 6:
		return []func() api.Term{
			func() api.Term { return fun(2) },
			func() api.Term { return fun(3, part0(natLists)) },
			func() api.Term { return fun(5, part0(functions), part0(nats)) },
			func() api.Term { return two(api.TermApply, functions, nats) },
		}[n-2]()
	case k == nats:
		return succ(part0(nats))
	case k == natLists && n < 2:
		return fun(6, part0(functions), part0(natLists))
	case k == natLists:
		return con(5, part0(nats), part0(natLists))
	case k == truths:
		return []func() api.Term{
			func() api.Term { return two(api.TermUnify, nats, nats) },
			func() api.Term { return two(api.TermUnify, natLists, natLists) },
			func() api.Term { return two(api.TermSame, ints, ints) },
			func() api.Term { return two(api.TermSame, nats, nats) },
			func() api.Term { return two(api.TermLess, ints, ints) },
			func() api.Term { return two(api.TermBoth, truths, truths) },
			func() api.Term { return fun(1, part0(truths), part0(truths)) },
		}[n]()
	case k == ints && n < 2:
		return fun(7, part0(ints), part0(ints))
	case k == ints:
		return two([]api.TermOp{api.TermAdd, api.TermSub}[n%2], ints, ints)
	case n < 2:
		return node(api.TermApply, 0, part(5), part0(functions))
	case n < 4:
		return node(api.TermApply, 0, part(0), part0(nats))
	}
	return part(0, part0(nats))
}

// prove makes a proof of an expression: by chance of more or less, of TermBot where it does not come to anything.
func (m *maker) prove(env []api.Term, e api.Term) api.LogicProof {
	m.left--
	if m.left < 0 || m.Intn(25) == 0 {
		return none()
	}
	switch e.Op {
	case api.TermVar:
		value := bottom()
		if e.N < len(env) {
			value = env[e.N]
		}
		if m.Intn(6) == 0 {
			value = cut(m.Rand, value, 4)
		}
		return is(value)
	case api.TermInt:
		return isNum(e.N)
	case api.TermOr:
		n := m.Intn(2)
		return through([]api.LogicRule{api.LogicLeft, api.LogicRight}[n], m.prove(env, e.Kids[n]))
	case api.TermLet:
		first := m.prove(env, e.Kids[0])
		inside := slices.Clone(env)
		for len(inside) <= e.N {
			inside = append(inside, bottom())
		}
		inside[e.N] = first.Value
		return through(api.LogicLet, first, m.prove(inside, e.Kids[1]))
	case api.TermUnify:
		return m.proveUnify(env, e)
	}
	var kids []api.LogicProof
	for _, x := range e.Kids {
		kids = append(kids, m.prove(env, x))
	}
	return m.combine(e, kids)
}

// proveUnify tries to make two proofs of the same.
func (m *maker) proveUnify(env []api.Term, e api.Term) api.LogicProof {
	for range 4 {
		a, b := m.prove(env, e.Kids[0]), m.prove(env, e.Kids[1])
		if equal(a.Value, b.Value) && total(a.Value) {
			return step(api.LogicUnify, truth(true), a, b)
		}
	}
	return none()
}

// combine makes a proof of proofs of all Kids, if these are fit for one.
func (m *maker) combine(e api.Term, kids []api.LogicProof) api.LogicProof {
	switch e.Op {
	case api.TermCon:
		return isCon(e.N, kids...)
	case api.TermPart:
		return isPart(e.N, kids...)
	case api.TermFun:
		return m.call(e.N, kids)
	case api.TermApply:
		return m.apply(kids[0], kids[1])
	}
	a, b := kids[0].Value, kids[1].Value
	isNums := a.Op == api.TermInt && b.Op == api.TermInt
	switch {
	case e.Op == api.TermWhen && equal(a, truth(true)):
		return through(api.LogicWhen, kids...)
	case e.Op == api.TermBoth && equal(a, truth(true)) && equal(b, truth(true)):
		return step(api.LogicBoth, truth(true), kids...)
	case e.Op == api.TermSame && ground(a) && ground(b):
		return step(api.LogicSame, truth(equal(a, b)), kids...)
	case e.Op == api.TermAdd && isNums:
		return step(api.LogicNum, num(a.N+b.N), kids...)
	case e.Op == api.TermSub && isNums:
		return step(api.LogicNum, num(a.N-b.N), kids...)
	case e.Op == api.TermLess && isNums:
		return step(api.LogicNum, truth(a.N < b.N), kids...)
	}
	return none()
}

// call makes a proof of a call by any of the rules that match what its arguments prove.
func (m *maker) call(f int, args []api.LogicProof) api.LogicProof {
	for _, n := range m.Perm(len(m.Rules)) {
		r := m.Rules[n]
		has := environment{}
		if r.Fun != f || !has.match(r.Pats, valuesOf(args)) {
			continue
		}
		var list []api.Term
		for x := range r.Vars {
			if _, ok := has[x]; !ok {
				has[x] = m.value(nats, 2)
			}
			list = append(list, has[x])
		}
		right := m.prove(list, r.Rhs)
		if right.Value.Op != api.TermBot {
			return by(n, list, append(slices.Clone(args), right)...)
		}
	}
	return none()
}

// match returns whether patterns become values, and finds what is put in for their variables.
func (env environment) match(pats, list []api.Term) bool {
	for i, pat := range pats {
		x := list[i]
		if pat.Op == api.TermVar {
			env[pat.N] = x
		} else if pat.Op != x.Op || pat.N != x.N || !env.match(pat.Kids, x.Kids) {
			return false
		}
	}
	return true
}

func (m *maker) apply(held, arg api.LogicProof) api.LogicProof {
	if held.Value.Op != api.TermPart {
		return none()
	}
	f := held.Value.N
	args := append(slices.Clone(held.Value.Kids), arg.Value)
	if len(args) < m.Sig.Funs[f].Args {
		return step(api.LogicApply, part(f, args...), held, arg)
	}
	var list []api.LogicProof
	for _, x := range args {
		list = append(list, is(x))
	}
	if call := m.call(f, list); call.Value.Op != api.TermBot {
		return through(api.LogicApply, held, arg, call)
	}
	return through(api.LogicApply, held, arg, none())
}

// proved is an expression in an environment with a proof.
type proved struct {
	env []api.Term
	e   api.Term
	f   api.LogicProof
}

// again makes one, whose proof is as defined, and says a bit.
func (m *maker) again() proved {
	for {
		list := []kind{nats, natLists, nats, ints, functions, truths}[:1+m.Intn(6)]
		s := scope{}
		var env []api.Term
		for n, k := range list {
			s[n] = k
			env = append(env, m.value(k, 3))
		}
		e := m.expr(s, kind(m.Intn(int(kinds))), 4)
		m.left = 60 + m.Intn(200)
		f := m.prove(env, e)
		if n := len(steps(&f)); n < 2 || n > 500 || depthOf(f) > 150 || count(e) > 40 || !m.fits(f) {
			continue
		}
		return proved{env, e, fresh(f)}
	}
}

// fits returns whether all Values and Binds of a proof are partial values.
func (m *maker) fits(f api.LogicProof) bool {
	for _, x := range steps(&f) {
		for _, value := range append(slices.Clone(x.Binds), x.Value) {
			if _, _, e := logic.CheckVal(m.Sig, value); e != api.OK {
				return false
			}
		}
	}
	return true
}

// each makes many proofs, and what it counts must be met often enough.
func each(t *testing.T, seed int64, times int, least map[string]int, do func(m *maker, x proved, met map[string]int)) {
	t.Helper()
	t.Parallel()
	m := newMaker(t, seed)
	met := map[string]int{}
	for range times {
		do(m, m.again(), met)
	}
	t.Log(met)
	for what, n := range least {
		if met[what] < n {
			t.Error("too few:", what, met[what])
		}
	}
}

func mustAccept(t *testing.T, p api.RuleProg, x proved) {
	t.Helper()
	got, why := logic.Accept(p, x.env, x.e, x.f)
	if why != api.OK || !equal(got, x.f.Value) {
		t.Fatal(why, showTerm(got), showTerms(x.env), showTerm(x.e), showProof(x.f))
	}
}

// P6.2: proofs that were made of what the table says are accepted.
func TestMadeProofs(t *testing.T) {
	least := map[string]int{}
	for r := api.LogicBot; r <= api.LogicApply; r++ {
		least[ruleName(r)] = 100
	}
	each(t, 2, 4000, least, func(m *maker, x proved, met map[string]int) {
		mustAccept(t, m.RuleProg, x)
		if !(second{m.RuleProg}).proves(environmentOf(x.env), x.e, x.f) {
			t.Fatal("the second version does not accept", showTerm(x.e), showProof(x.f))
		}
		for _, f := range steps(&x.f) {
			met[ruleName(f.Rule)]++
		}
	})
}

func ruleName(r api.LogicRule) string { return "rule " + showNumbers([]int{int(r)}) }

// change changes something of a proof, which stays as defined, or of what it has to prove.
func (m *maker) change(x *proved) {
	list := steps(&x.f)
	at := list[m.Intn(len(list))]
	anything := m.value(kind(m.Intn(int(kinds))), 2)
	switch n := m.Intn(11); {
	case n == 0:
		at.Rule = api.LogicRule(m.Intn(18) - 1)
		at.Num, at.Binds = 0, nil
	case n == 1 && at.Rule == api.LogicFun:
		at.Num = m.Intn(16) - 1
	case n == 2 && len(at.Binds) > 0:
		at.Binds[m.Intn(len(at.Binds))] = anything
	case n == 3 && len(at.Binds) > 0:
		at.Binds = at.Binds[1:]
	case n == 4 && len(at.Kids) > 1:
		i, j := m.Intn(len(at.Kids)), m.Intn(len(at.Kids))
		at.Kids[i], at.Kids[j] = at.Kids[j], at.Kids[i]
	case n == 5 && len(at.Kids) > 0:
		at.Kids = at.Kids[:len(at.Kids)-1]
	case n == 6:
		at.Kids = append(at.Kids, is(anything))
	case n == 7 && len(x.env) > 0:
		x.env[m.Intn(len(x.env))] = anything
	case n == 8:
		other := list[m.Intn(len(list))]
		*at = fresh(*other)
	case n == 9:
		at.Value = anything
	default:
		at.Value = cut(m.Rand, at.Value, 3)
	}
}

// P6.2: a proof is accepted just if the second version accepts it.
func TestReference(t *testing.T) {
	least := map[string]int{"accepted": 1500, "refused": 10000}
	each(t, 3, 8000, least, func(m *maker, x proved, met map[string]int) {
		for range 3 {
			m.change(&x)
			got, why := logic.Accept(m.RuleProg, x.env, x.e, x.f)
			switch {
			case why == api.ErrArg: // it became too large
				return
			case (second{m.RuleProg}).proves(environmentOf(x.env), x.e, x.f):
				met["accepted"]++
				mustAccept(t, m.RuleProg, x)
			case why != api.ErrRule || !equal(got, api.Term{}):
				t.Fatal(why, showTerm(got), showTerms(x.env), showTerm(x.e), showProof(x.f))
			default:
				met["refused"]++
			}
		}
	})
}

// P6.3: what is proved is proved of all below it, by no more calls; what is not below is not.
func TestLowerMeaning(t *testing.T) {
	least := map[string]int{"lower": 5000, "none": 3000, "calls": 4000, "fewer": 500, "same": 500}
	each(t, 4, 4000, least, func(m *maker, x proved, met map[string]int) {
		calls, nodes, _ := logic.Calls(m.RuleProg, x.f)
		for range 3 {
			value := cut(m.Rand, x.f.Value, 2+m.Intn(8))
			f, why := logic.Lower(m.RuleProg, x.env, x.e, x.f, value)
			if why != api.OK || !equal(f.Value, value) {
				t.Fatal(why, showTerm(value), showProof(f), showProof(x.f))
			}
			mustAccept(t, m.RuleProg, proved{x.env, x.e, f})
			fewer, left, _ := logic.Calls(m.RuleProg, f)
			if len(fewer) > len(calls) || left > nodes {
				t.Fatal("more calls, or nodes", showProof(f), showProof(x.f))
			}
			met["lower"]++
			met["calls"] += len(fewer)
			met["fewer"] += min(1, len(calls)-len(fewer))
			if equal(value, x.f.Value) {
				met["same"]++
			}
			other := m.value(kind(m.Intn(int(kinds))), 3)
			if isBelow(other, x.f.Value) {
				continue
			}
			met["none"]++
			if f, why := logic.Lower(m.RuleProg, x.env, x.e, x.f, other); why != api.ErrNone || showProof(f) != showProof(api.LogicProof{}) {
				t.Fatal(why, showTerm(other), showProof(f), showProof(x.f))
			}
		}
	})
}

// bindings makes bindings for some of the variables that values have, and others.
func (m *maker) bindings() []api.TermBind {
	var list []api.TermBind
	for _, n := range []int{0, 1, 66, 131, 132, 198, 199} {
		if m.Intn(2) == 0 {
			list = append(list, bind(n, m.total(kind(m.Intn(int(kinds))), 2)))
		}
	}
	return list
}

// putInto is a value with bindings put in.
func putInto(x api.Term, list []api.TermBind) api.Term {
	for _, b := range list {
		if x.Op == api.TermVar && x.N == b.Var {
			return b.Term
		}
	}
	made := node(x.Op, x.N)
	for _, k := range x.Kids {
		made.Kids = append(made.Kids, putInto(k, list))
	}
	return made
}

// P6.4: what was proved is proved, with the same put in, in the environment in which it was put in.
func TestPutMeaning(t *testing.T) {
	least := map[string]int{"put": 5000, "changed": 600}
	each(t, 5, 5000, least, func(m *maker, x proved, met map[string]int) {
		list := m.bindings()
		f, why := logic.Put(m.RuleProg, x.f, list)
		want := fresh(x.f)
		for _, at := range steps(&want) {
			at.Value = putInto(at.Value, list)
			for i := range at.Binds {
				at.Binds[i] = putInto(at.Binds[i], list)
			}
		}
		if why != api.OK || showProof(f) != showProof(want) {
			t.Fatal(why, showProof(f), "want", showProof(want))
		}
		var env []api.Term
		for _, value := range x.env {
			env = append(env, putInto(value, list))
		}
		met["put"]++
		if showProof(f) != showProof(x.f) {
			met["changed"]++
		}
		mustAccept(t, m.RuleProg, proved{env, x.e, f})
	})
}

// above returns something above a value.
func (m *maker) above(x api.Term) api.Term {
	if x.Op == api.TermBot {
		return m.value(kind(m.Intn(int(kinds))), 2)
	}
	made := node(x.Op, x.N)
	for _, k := range x.Kids {
		made.Kids = append(made.Kids, m.above(k))
	}
	return made
}

// P6.5: with an environment in which everything is above, the same proof proves the same.
func TestMoreMeaning(t *testing.T) {
	least := map[string]int{"more": 3000, "changed": 1500}
	each(t, 6, 4000, least, func(m *maker, x proved, met map[string]int) {
		var env []api.Term
		for _, value := range x.env {
			env = append(env, m.above(value))
		}
		for len(env) < 20 && m.Intn(2) == 0 {
			env = append(env, m.value(nats, 2))
		}
		met["more"]++
		if showTerms(env) != showTerms(x.env) {
			met["changed"]++
		}
		mustAccept(t, m.RuleProg, proved{env, x.e, x.f})
	})
}

// others are partial values that are not the same as one, near to it and far from it.
func (m *maker) others(x api.Term) []api.Term {
	list := terms(bottom(), zero(), truth(true), truth(false), num(0), v(0), v(66), part(0), succ(x), succ(bottom()), m.above(x), cut(m.Rand, x, 3), m.value(nats, 2), m.value(natLists, 2), m.value(functions, 2))
	for i := range x.Kids {
		for _, kid := range terms(bottom(), v(7), zero(), num(1)) {
			made := freshTerm(x)
			made.Kids[i] = kid
			list = append(list, made)
		}
	}
	return slices.DeleteFunc(list, func(y api.Term) bool { return equal(x, y) || !isVal(y) })
}

func isVal(x api.Term) bool { return count(x) <= 80 && depth(x) <= 30 }

// P6.7: with one Value altered, but of a LogicVar, a proof is not accepted any more.
func TestAltered(t *testing.T) {
	least := map[string]int{}
	for r := api.LogicBot; r <= api.LogicApply; r++ {
		if r != api.LogicVar {
			least[ruleName(r)] = 100
		}
	}
	each(t, 7, 400, least, func(m *maker, x proved, met map[string]int) {
		for _, at := range steps(&x.f) {
			if at.Rule == api.LogicVar {
				continue
			}
			right := at.Value
			for _, value := range m.others(right) {
				at.Value = value
				if got, why := logic.Accept(m.RuleProg, x.env, x.e, x.f); why != api.ErrRule || !equal(got, api.Term{}) {
					t.Fatal(why, showTerm(right), "became", showTerm(value), showProof(x.f))
				}
				met[ruleName(at.Rule)]++
			}
			at.Value = right
		}
		mustAccept(t, m.RuleProg, x)
	})
}
