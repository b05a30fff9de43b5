package term

import (
	"slices"

	"swingle/api"
	"swingle/letters"
	"swingle/lists"
)

// checkAll returns ErrArg if a signature, or one of some expressions, is not formed.
func checkAll(s api.TermSig, list ...api.Term) api.Errno {
	isFormed := func(t api.Term) bool { return formed(s, t) }
	if !sigFormed(s) || !lists.All(list, isFormed) {
		return api.ErrArg
	}
	return api.OK
}

// checkValues returns ErrArg if a signature is not formed, or one of some expressions is no formed value.
func checkValues(s api.TermSig, list ...api.Term) api.Errno {
	if e := checkAll(s, list...); e != api.OK {
		return e
	}
	if !lists.All(list, isValue) {
		return api.ErrArg
	}
	return api.OK
}

func sigFormed(s api.TermSig) bool {
	if len(s.Cons) < 2 || len(s.Cons) > api.TermCons || len(s.Funs) > api.TermFuns {
		return false
	}
	if s.Cons[0] != (api.TermName{Name: "False"}) || s.Cons[1] != (api.TermName{Name: "True"}) {
		return false
	}
	// All functions of all layers ask this: names are so few and so short that
	// a list of them is quicker than a map.
	taken := make([]string, 0, api.TermCons+api.TermFuns)
	isFormed := func(n api.TermName) bool {
		if slices.Contains(taken, n.Name) || !letters.IsName(n.Name) {
			return false
		}
		taken = append(taken, n.Name)
		return 0 <= n.Args && n.Args <= api.TermArgs
	}
	return lists.All(s.Cons, isFormed) && lists.All(s.Funs, isFormed)
}

// formed stops at the first node that is not as it must be, before it goes
// into its Kids, so that it also ends for lists of Kids that are endless or
// lead back to themselves.
func formed(s api.TermSig, t api.Term) bool {
	g := grammar{s}
	must := mustHave()
	count := 0
	for depth, n := range nodes(t) {
		count++
		if count > api.TermNodes || depth > api.TermDepth {
			return false
		}
		if n.Op < api.TermVar || n.Op >= api.TermBot || !must[n.Op](g, n) {
			return false
		}
	}
	return true
}

// grammar says what the nodes of a signature's expressions must have.
type grammar struct {
	api.TermSig
}

// mustHave returns what a node of each Op must have.
func mustHave() [api.TermBot]func(grammar, api.Term) bool {
	return [api.TermBot]func(grammar, api.Term) bool{
		api.TermVar:   grammar.variable,
		api.TermInt:   grammar.integer,
		api.TermCon:   grammar.constructor,
		api.TermFun:   grammar.call,
		api.TermPart:  grammar.part,
		api.TermApply: grammar.two,
		api.TermOr:    grammar.two,
		api.TermLet:   grammar.let,
		api.TermWhen:  grammar.two,
		api.TermBoth:  grammar.two,
		api.TermUnify: grammar.two,
		api.TermSame:  grammar.two,
		api.TermAdd:   grammar.two,
		api.TermSub:   grammar.two,
		api.TermLess:  grammar.two,
	}
}

func (g grammar) variable(t api.Term) bool {
	return isVar(t.N) && len(t.Kids) == 0
}

func (g grammar) integer(t api.Term) bool {
	return -api.TermMost <= t.N && t.N <= api.TermMost && len(t.Kids) == 0
}

func (g grammar) constructor(t api.Term) bool {
	return 0 <= t.N && t.N < len(g.Cons) && len(t.Kids) == g.Cons[t.N].Args
}

func (g grammar) call(t api.Term) bool {
	return g.isFun(t.N) && len(t.Kids) == g.Funs[t.N].Args
}

// part needs no look at Args of at least 1: without them there are no fewer Kids.
func (g grammar) part(t api.Term) bool {
	return g.isFun(t.N) && len(t.Kids) < g.Funs[t.N].Args
}

func (g grammar) let(t api.Term) bool {
	return isVar(t.N) && len(t.Kids) == 2
}

func (g grammar) two(t api.Term) bool {
	return t.N == 0 && len(t.Kids) == 2
}

func (g grammar) isFun(n int) bool {
	return 0 <= n && n < len(g.Funs)
}

func isVar(n int) bool {
	return 0 <= n && n < api.TermVars
}

// listFormed returns whether a list is a binding list. It need not count the
// bindings: there are no more variables that increase.
func listFormed(s api.TermSig, l []api.TermBind) bool {
	before := -1
	return lists.All(l, func(b api.TermBind) bool {
		increases := b.Var > before
		before = b.Var
		return increases && isVar(b.Var) && formed(s, b.Term)
	})
}

func isValue(t api.Term) bool {
	for _, n := range nodes(t) {
		switch n.Op {
		case api.TermVar, api.TermInt, api.TermCon, api.TermPart:
		default:
			return false
		}
	}
	return true
}

func isGround(t api.Term) bool {
	for _, n := range nodes(t) {
		if n.Op == api.TermVar {
			return false
		}
	}
	return true
}

func isPattern(t api.Term) bool {
	var met varSet
	for _, n := range nodes(t) {
		switch {
		case n.Op == api.TermVar && !met[n.N]:
			met[n.N] = true
		case n.Op != api.TermCon:
			return false
		}
	}
	return true
}
