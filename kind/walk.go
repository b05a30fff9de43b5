package kind

import "swingle/api"

// use is a place of an expression where a function stands of whose type any
// instance can be taken: the number of the node there, and the nodes of what
// stands there for the type variables of the function's type.
type use struct {
	node, fun int
	vars      map[int]int
}

// walk goes through expressions, and looks for their types.
type walk struct {
	graph
	cons []api.KindType // the types of constructors, as if they were functions
	funs []api.KindType // the types of functions, of which any instance can be taken
	own  map[int]int    // the nodes of the types of functions that have just these
	vars map[int]int    // the nodes of the types of variables
	met  int            // how many nodes of expressions it has come to
	uses []use
	asks [api.TermBot]func(api.Term) int // what finds the type of a node of each Op
}

func newWalk(datas []api.KindData, funs []api.KindType) *walk {
	w := &walk{cons: constructors(datas), funs: funs, own: map[int]int{}, vars: map[int]int{}}
	w.asks = [api.TermBot]func(api.Term) int{
		api.TermVar:   w.variable,
		api.TermInt:   w.literal,
		api.TermCon:   w.constructor,
		api.TermFun:   w.call,
		api.TermPart:  w.call,
		api.TermApply: w.apply,
		api.TermOr:    w.or,
		api.TermLet:   w.let,
		api.TermWhen:  w.when,
		api.TermBoth:  w.both,
		api.TermUnify: w.equal,
		api.TermSame:  w.equal,
		api.TermAdd:   w.sum,
		api.TermSub:   w.sum,
		api.TermLess:  w.less,
	}
	return w
}

// constructors returns the types that constructors have, as if they were functions.
func constructors(datas []api.KindData) []api.KindType {
	var list []api.KindType
	for n, d := range datas {
		whole := api.KindType{Sort: api.KindOfData, N: n}
		for p := range d.Params {
			whole.Parts = append(whole.Parts, typeVar(p))
		}
		for _, args := range d.Cons {
			list = append(list, arrows(args, whole))
		}
	}
	return list
}

// rule gives up if a rule does not fit. Its variables have nothing to do with those of other rules.
func (w *walk) rule(r api.RuleRule) {
	w.vars = map[int]int{}
	result := w.applied(w.own[r.Fun], r.Pats)
	w.unify(result, w.of(r.Rhs))
}

// of returns the type of an expression; it gives up if there is none. A node is
// come to before its Kids, and these in order.
func (w *walk) of(t api.Term) int {
	w.met++
	return w.asks[t.Op](t)
}

// have gives up if expressions have no types that are the same as some nodes.
func (w *walk) have(list []api.Term, nodes ...int) {
	together(list, nodes, func(t api.Term, at int) { w.unify(w.of(t), at) })
}

// applied returns the type of what something of the type f comes to, with these arguments.
func (w *walk) applied(f int, args []api.Term) int {
	for _, t := range args {
		result := w.some()
		w.unify(f, w.arrow(w.of(t), result))
		f = result
	}
	return f
}

func (w *walk) variable(t api.Term) int { return w.nodeOf(t.N, w.vars) }

func (w *walk) literal(api.Term) int { return w.integer() }

func (w *walk) constructor(t api.Term) int {
	return w.applied(w.put(w.cons[t.N], map[int]int{}), t.Kids)
}

func (w *walk) call(t api.Term) int {
	return w.applied(w.function(t.N), t.Kids)
}

// function returns the type of the function that stands at the node that was come to last.
func (w *walk) function(fun int) int {
	if at, ok := w.own[fun]; ok {
		return at
	}
	vars := map[int]int{}
	at := w.put(w.funs[fun], vars)
	w.uses = append(w.uses, use{w.met - 1, fun, vars})
	return at
}

func (w *walk) apply(t api.Term) int {
	from, to := w.some(), w.some()
	w.have(t.Kids, w.arrow(from, to), from)
	return to
}

func (w *walk) or(t api.Term) int {
	both := w.some()
	w.have(t.Kids, both, both)
	return both
}

// let hides a variable outside that has the same number, in the second Kid alone.
func (w *walk) let(t api.Term) int {
	is := w.of(t.Kids[0])
	outside, hidden := w.vars[t.N]
	w.vars[t.N] = is
	whole := w.of(t.Kids[1])
	delete(w.vars, t.N)
	if hidden {
		w.vars[t.N] = outside
	}
	return whole
}

func (w *walk) when(t api.Term) int {
	then := w.some()
	w.have(t.Kids, w.truth(), then)
	return then
}

func (w *walk) both(t api.Term) int {
	w.have(t.Kids, w.truth(), w.truth())
	return w.truth()
}

func (w *walk) equal(t api.Term) int {
	both := w.some()
	w.have(t.Kids, both, both)
	return w.truth()
}

func (w *walk) sum(t api.Term) int {
	w.have(t.Kids, w.integer(), w.integer())
	return w.integer()
}

func (w *walk) less(t api.Term) int {
	w.have(t.Kids, w.integer(), w.integer())
	return w.truth()
}
