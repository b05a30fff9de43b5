package logic_test

import (
	"strings"

	"swingle/api"
)

// second is a second version of what proofs prove: it follows the chapter's
// table row by row, to have something to compare with. Variables that an
// environment has not are TermBot. Values are compared as texts.
type second struct {
	api.RuleProg
}

type environment map[int]api.Term

func environmentOf(list []api.Term) environment {
	made := environment{}
	for n, x := range list {
		made[n] = x
	}
	return made
}

func (env environment) of(n int) api.Term {
	if x, ok := env[n]; ok {
		return x
	}
	return bottom()
}

func (env environment) with(n int, x api.Term) environment {
	made := environment{n: x}
	for v, y := range env {
		if v != n {
			made[v] = y
		}
	}
	return made
}

// filled is a pattern with what an environment has in place of its variables.
func (env environment) filled(pat api.Term) api.Term {
	if pat.Op == api.TermVar {
		return env.of(pat.N)
	}
	made := node(pat.Op, pat.N)
	for _, k := range pat.Kids {
		made.Kids = append(made.Kids, env.filled(k))
	}
	return made
}

func equal(a, b api.Term) bool { return showTerm(a) == showTerm(b) }

func total(x api.Term) bool { return !strings.Contains(showTerm(x), "bot") }

func ground(x api.Term) bool { return total(x) && !strings.Contains(showTerm(x), "v") }

func isBelow(a, b api.Term) bool {
	if a.Op == api.TermBot {
		return true
	}
	if a.Op != b.Op || a.N != b.N || len(a.Kids) != len(b.Kids) {
		return false
	}
	for i := range a.Kids {
		if !isBelow(a.Kids[i], b.Kids[i]) {
			return false
		}
	}
	return true
}

// eachKid returns whether all Kids of a proof prove those of an expression, of which there are as many.
func (s second) eachKid(env environment, kids []api.Term, list []api.LogicProof) bool {
	if len(kids) != len(list) {
		return false
	}
	for i := range kids {
		if !s.proves(env, kids[i], list[i]) {
			return false
		}
	}
	return true
}

// proves returns whether a proof proves e -> v in an environment, where v is its Value.
func (s second) proves(env environment, e api.Term, f api.LogicProof) bool {
	v, values := f.Value, valuesOf(f.Kids)
	switch f.Rule {
	case api.LogicBot:
		return len(f.Kids) == 0 && equal(v, bottom())
	case api.LogicVar:
		return e.Op == api.TermVar && len(f.Kids) == 0 && isBelow(v, env.of(e.N))
	case api.LogicInt:
		return e.Op == api.TermInt && len(f.Kids) == 0 && equal(v, e)
	case api.LogicCon:
		return e.Op == api.TermCon && s.eachKid(env, e.Kids, f.Kids) && equal(v, con(e.N, values...))
	case api.LogicPart:
		return e.Op == api.TermPart && s.eachKid(env, e.Kids, f.Kids) && equal(v, part(e.N, values...))
	case api.LogicFun:
		return e.Op == api.TermFun && s.provesCall(env, e, f)
	case api.LogicLeft:
		return e.Op == api.TermOr && s.eachKid(env, e.Kids[:1], f.Kids) && equal(v, values[0])
	case api.LogicRight:
		return e.Op == api.TermOr && s.eachKid(env, e.Kids[1:], f.Kids) && equal(v, values[0])
	case api.LogicLet:
		return e.Op == api.TermLet && len(f.Kids) == 2 && s.proves(env, e.Kids[0], f.Kids[0]) && s.proves(env.with(e.N, values[0]), e.Kids[1], f.Kids[1]) && equal(v, values[1])
	case api.LogicApply:
		return e.Op == api.TermApply && len(f.Kids) >= 2 && s.eachKid(env, e.Kids, f.Kids[:2]) && s.provesApply(f)
	}
	return len(e.Kids) == 2 && s.eachKid(env, e.Kids, f.Kids) && provesTwo(e.Op, f.Rule, v, values[0], values[1])
}

func (s second) provesCall(env environment, e api.Term, f api.LogicProof) bool {
	if f.Num < 0 || f.Num >= len(s.Rules) || s.Rules[f.Num].Fun != e.N || len(f.Binds) != s.Rules[f.Num].Vars {
		return false
	}
	r, last, binds := s.Rules[f.Num], len(f.Kids)-1, environmentOf(f.Binds)
	if last < 0 || !s.eachKid(env, e.Kids, f.Kids[:last]) {
		return false
	}
	for i, pat := range r.Pats {
		if !equal(f.Kids[i].Value, binds.filled(pat)) {
			return false
		}
	}
	lets := []int{}
	for _, x := range nodes(r.Rhs) {
		if x.Op == api.TermLet {
			lets = append(lets, x.N)
		}
	}
	for _, n := range lets {
		binds = binds.with(n, bottom())
	}
	return s.proves(binds, r.Rhs, f.Kids[last]) && equal(f.Value, f.Kids[last].Value) && !equal(f.Value, bottom())
}

// nodes are a term and all its parts.
func nodes(x api.Term) []api.Term {
	list := terms(x)
	for _, k := range x.Kids {
		list = append(list, nodes(k)...)
	}
	return list
}

func (s second) provesApply(f api.LogicProof) bool {
	held, u := f.Kids[0].Value, f.Kids[1].Value
	if held.Op != api.TermPart {
		return false
	}
	args := append(append(terms(), held.Kids...), u)
	if len(args) < s.Sig.Funs[held.N].Args {
		return len(f.Kids) == 2 && equal(f.Value, part(held.N, args...))
	}
	var vars []api.Term
	for n := range args {
		vars = append(vars, v(n))
	}
	return len(f.Kids) == 3 && s.proves(environmentOf(args), fun(held.N, vars...), f.Kids[2]) && equal(f.Value, f.Kids[2].Value)
}

// provesTwo returns whether a rule, of those whose Kids are two, has v for what these prove.
func provesTwo(op api.TermOp, r api.LogicRule, v, a, b api.Term) bool {
	yes := equal(v, truth(true))
	switch {
	case r == api.LogicWhen && op == api.TermWhen:
		return equal(a, truth(true)) && equal(v, b)
	case r == api.LogicBoth && op == api.TermBoth:
		return yes && equal(a, truth(true)) && equal(b, truth(true))
	case r == api.LogicUnify && op == api.TermUnify:
		return yes && equal(a, b) && total(a)
	case r == api.LogicSame && op == api.TermSame:
		return ground(a) && ground(b) && equal(v, truth(equal(a, b)))
	case r != api.LogicNum || a.Op != api.TermInt || b.Op != api.TermInt:
		return false
	case op == api.TermAdd:
		return equal(v, num(a.N+b.N)) && -1000000 <= v.N && v.N <= 1000000
	case op == api.TermSub:
		return equal(v, num(a.N-b.N)) && -1000000 <= v.N && v.N <= 1000000
	}
	return op == api.TermLess && equal(v, truth(a.N < b.N))
}
