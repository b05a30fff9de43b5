package logic

import (
	"slices"

	"swingle/api"
	"swingle/attempt"
	"swingle/lists"
	"swingle/term"
)

// isEnv returns whether a list is an environment.
func isEnv(s api.TermSig, env []api.Term) bool {
	return len(env) <= api.TermVars && areVals(s, env)
}

// isOpen returns whether an expression is formed, and all its free variables
// are less than a number.
func isOpen(s api.TermSig, e api.Term, vars int) bool {
	free, why := term.Vars(s, e)
	return why == api.OK && lists.All(free, func(v int) bool { return v < vars })
}

// checker is the kernel: a program, and what each rule of the logic asks. It
// trusts nothing that a proof says.
type checker struct {
	api.RuleProg
}

// judgement is a proof with the expression and the environment of which it has
// to prove its Value.
type judgement struct {
	api.LogicProof
	e   api.Term
	env []api.Term
}

// asks returns what each rule asks of a judgement: it gives up, or returns what
// is proved.
func asks() [api.LogicApply + 1]func(checker, judgement) api.Term {
	return [api.LogicApply + 1]func(checker, judgement) api.Term{
		api.LogicBot:   checker.nothing,
		api.LogicVar:   checker.variable,
		api.LogicInt:   checker.integer,
		api.LogicCon:   checker.constructor,
		api.LogicPart:  checker.part,
		api.LogicFun:   checker.call,
		api.LogicLeft:  checker.left,
		api.LogicRight: checker.right,
		api.LogicLet:   checker.let,
		api.LogicWhen:  checker.when,
		api.LogicBoth:  checker.both,
		api.LogicUnify: checker.unify,
		api.LogicSame:  checker.same,
		api.LogicNum:   checker.number,
		api.LogicApply: checker.apply,
	}
}

// must gives up with a proof that is not right.
func must(is bool) {
	if !is {
		panic(attempt.GiveUp{Why: api.ErrRule})
	}
}

// prove returns the Value of a proof that proves it of an expression, in an
// environment which has all that is free there, or gives up.
func (c checker) prove(env []api.Term, e api.Term, f api.LogicProof) api.Term {
	must(api.LogicBot <= f.Rule && f.Rule <= api.LogicApply)
	v := asks()[f.Rule](c, judgement{f, e, env})
	must(same(v, f.Value))
	return v
}

// has gives up if the expression has another Op, or the proof another number of Kids.
func (j judgement) has(op api.TermOp, many int) {
	must(j.e.Op == op && len(j.Kids) == many)
}

// kid returns what the Kid i proves of that of the expression.
func (c checker) kid(j judgement, i int) api.Term {
	return c.prove(j.env, j.e.Kids[i], j.Kids[i])
}

// two returns what two Kids prove of those of the expression.
func (c checker) two(j judgement) (api.Term, api.Term) {
	first := c.kid(j, 0)
	return first, c.kid(j, 1)
}

func truth(is bool) api.Term {
	if is {
		return api.Term{Op: api.TermCon, N: 1}
	}
	return api.Term{Op: api.TermCon, N: 0}
}

func isTrue(v api.Term) bool { return same(v, truth(true)) }

func (c checker) nothing(j judgement) api.Term {
	must(len(j.Kids) == 0)
	return api.Term{Op: api.TermBot}
}

func (c checker) variable(j judgement) api.Term {
	j.has(api.TermVar, 0)
	must(below(j.Value, j.env[j.e.N]))
	return j.Value
}

func (c checker) integer(j judgement) api.Term {
	j.has(api.TermInt, 0)
	return j.e
}

func (c checker) constructor(j judgement) api.Term {
	j.has(api.TermCon, len(j.e.Kids))
	return c.built(j)
}

func (c checker) part(j judgement) api.Term {
	j.has(api.TermPart, len(j.e.Kids))
	return c.built(j)
}

// built returns the expression with what the Kids prove in place of its own.
func (c checker) built(j judgement) api.Term {
	made := api.Term{Op: j.e.Op, N: j.e.N}
	for i := range j.e.Kids {
		made.Kids = append(made.Kids, c.kid(j, i))
	}
	return made
}

// call takes the Binds as they are for the right side's environment: what they
// have for the variables of TermLets is never looked at, as these stand only
// where LogicLet says what they have.
func (c checker) call(j judgement) api.Term {
	j.has(api.TermFun, len(j.e.Kids)+1)
	must(lists.Has(c.Rules, j.Num))
	r := c.Rules[j.Num]
	must(r.Fun == j.e.N && len(j.Binds) == r.Vars)
	for i, pat := range r.Pats {
		must(becomes(pat, j.Binds, c.kid(j, i)))
	}
	v := c.prove(j.Binds, r.Rhs, j.Kids[len(r.Pats)])
	must(v.Op != api.TermBot)
	return v
}

// becomes returns whether a pattern, with what variables have in their place,
// is a partial value.
func becomes(pat api.Term, binds []api.Term, v api.Term) bool {
	if pat.Op == api.TermVar {
		return same(binds[pat.N], v)
	}
	inside := func(pat, v api.Term) bool { return becomes(pat, binds, v) }
	return pat.Op == v.Op && pat.N == v.N && slices.EqualFunc(pat.Kids, v.Kids, inside)
}

func (c checker) left(j judgement) api.Term {
	j.has(api.TermOr, 1)
	return c.prove(j.env, j.e.Kids[0], j.Kids[0])
}

func (c checker) right(j judgement) api.Term {
	j.has(api.TermOr, 1)
	return c.prove(j.env, j.e.Kids[1], j.Kids[0])
}

func (c checker) let(j judgement) api.Term {
	j.has(api.TermLet, 2)
	inside := with(j.env, j.e.N, c.kid(j, 0))
	return c.prove(inside, j.e.Kids[1], j.Kids[1])
}

// with returns an environment in which a variable has something; it is as long
// as this takes.
func with(env []api.Term, n int, v api.Term) []api.Term {
	made := slices.Clone(env)
	for len(made) <= n {
		made = append(made, api.Term{Op: api.TermBot})
	}
	made[n] = v
	return made
}

func (c checker) when(j judgement) api.Term {
	j.has(api.TermWhen, 2)
	condition, v := c.two(j)
	must(isTrue(condition))
	return v
}

func (c checker) both(j judgement) api.Term {
	j.has(api.TermBoth, 2)
	first, second := c.two(j)
	must(isTrue(first) && isTrue(second))
	return truth(true)
}

func (c checker) unify(j judgement) api.Term {
	j.has(api.TermUnify, 2)
	first, second := c.two(j)
	must(same(first, second) && isTotal(first))
	return truth(true)
}

func (c checker) same(j judgement) api.Term {
	j.has(api.TermSame, 2)
	first, second := c.two(j)
	must(isGround(first) && isGround(second))
	return truth(same(first, second))
}

// number need not look at how large a sum is: no Value of a proof is too large.
func (c checker) number(j judgement) api.Term {
	must(takesIntegers(j.e.Op) && len(j.Kids) == 2)
	first, second := c.two(j)
	must(first.Op == api.TermInt && second.Op == api.TermInt)
	switch j.e.Op {
	case api.TermAdd:
		return api.Term{Op: api.TermInt, N: first.N + second.N}
	case api.TermSub:
		return api.Term{Op: api.TermInt, N: first.N - second.N}
	}
	return truth(first.N < second.N)
}

func takesIntegers(op api.TermOp) bool {
	return op == api.TermAdd || op == api.TermSub || op == api.TermLess
}

// apply hands one more argument to a function: with this there are too few, or
// just as many as it has, and it is called.
func (c checker) apply(j judgement) api.Term {
	must(j.e.Op == api.TermApply && len(j.Kids) >= 2)
	held, arg := c.two(j)
	must(held.Op == api.TermPart)
	args := append(slices.Clone(held.Kids), arg)
	if len(args) < c.Sig.Funs[held.N].Args {
		must(len(j.Kids) == 2)
		return api.Term{Op: api.TermPart, N: held.N, Kids: args}
	}
	must(len(j.Kids) == 3)
	return c.prove(args, callOf(held.N, len(args)), j.Kids[2])
}

// callOf returns the call of a function with the variables 0, 1, and so on.
func callOf(fun, args int) api.Term {
	made := api.Term{Op: api.TermFun, N: fun}
	for v := range args {
		made.Kids = append(made.Kids, api.Term{Op: api.TermVar, N: v})
	}
	return made
}
