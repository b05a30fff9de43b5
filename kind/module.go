package kind

import (
	"swingle/api"
	"swingle/attempt"
	"swingle/formed"
	"swingle/term"
	"swingle/tree"
)

// principal returns the principal types of all functions, or the first group
// that has none which are formed, and why.
func principal(m api.ReadModule) ([]api.KindType, set, api.Errno) {
	types := make([]api.KindType, len(m.Prog.Sig.Funs))
	for _, group := range groups(m.Prog) {
		made, why := attempt.Do(func() []api.KindType { return groupTypes(m, group, types) })
		if why != api.OK {
			return nil, group, why
		}
		for i, f := range group.list() {
			types[f] = made[i]
		}
	}
	return types, 0, api.OK
}

// groupTypes returns the principal types of a group; types has those of the groups before it.
func groupTypes(m api.ReadModule, group set, types []api.KindType) []api.KindType {
	w := newWalk(m.Datas, types)
	for _, f := range group.list() {
		w.own[f] = w.someFunction(m.Prog.Sig.Funs[f].Args)
	}
	for _, r := range m.Prog.Rules {
		if group.has(r.Fun) {
			w.rule(r)
		}
	}
	w.mustEnd()
	numbers := map[int]int{}
	var made []api.KindType
	for _, f := range group.list() {
		made = append(made, w.read(w.own[f], numbers))
	}
	return made
}

// fits returns whether a rule fits with types that are proposed, in a module
// in which the functions of a group have just their types.
func fits(m api.ReadModule, group set, types []api.KindType, r api.RuleRule) bool {
	done, _ := attempt.Do(func() bool {
		w := newWalk(m.Datas, types)
		vars := w.allFixed()
		for _, f := range group.list() {
			w.own[f] = w.put(types[f], vars)
		}
		w.rule(r)
		w.mustEnd()
		return true
	})
	return done
}

// canHave returns whether a type can be proposed for a function.
func canHave(datas []api.KindData, f api.TermName, t api.KindType) bool {
	return formed.Type(datas, t) && arguments(t) >= f.Args
}

func arguments(t api.KindType) int {
	count := 0
	for t.Sort == api.KindFun {
		count++
		t = t.Parts[1]
	}
	return count
}

// typing is the type of an expression, with those of its free variables, and
// the walk by which they were found.
type typing struct {
	*walk
	whole   api.KindType
	free    []api.KindType
	numbers map[int]int
}

// checkExpression returns ErrArg for a module or an expression that is not formed.
func checkExpression(m api.ReadModule, t api.Term) api.Errno {
	if !formed.Module(m) || term.Check(m.Prog.Sig, t) != api.OK {
		return api.ErrArg
	}
	return api.OK
}

// infer returns an expression's typing, in a module whose functions have their principal types.
func infer(m api.ReadModule, t api.Term) (typing, api.Errno) {
	types, _, e := principal(m)
	if e != api.OK {
		return typing{}, e
	}
	return attempt.Do(func() typing { return typingOf(m.Datas, types, t) })
}

func typingOf(datas []api.KindData, types []api.KindType, t api.Term) typing {
	w := newWalk(datas, types)
	at := w.of(t)
	w.mustEnd()
	made := typing{walk: w, numbers: map[int]int{}}
	made.whole = w.read(at, made.numbers)
	for v := range api.TermVars {
		if at, ok := w.vars[v]; ok {
			made.free = append(made.free, w.read(at, made.numbers))
		}
	}
	return made
}

// usesThere returns the uses of functions in the expression.
func (t typing) usesThere() []api.KindUse {
	var list []api.KindUse
	for _, u := range t.uses {
		list = append(list, api.KindUse{Node: u.node, Fun: u.fun, Types: t.typesFor(u)})
	}
	return list
}

// typesFor returns what stands for the type variables at a use: those that the
// function's type does not have are new ones.
func (t typing) typesFor(u use) []api.KindType {
	var list []api.KindType
	for n := range varsUpTo(t.funs[u.fun]) {
		list = append(list, t.read(t.nodeOf(n, u.vars), t.numbers))
	}
	return list
}

// varsUpTo returns 1 more than the greatest type variable of a type, or 0.
func varsUpTo(t api.KindType) int {
	end := 0
	for n := range tree.Nodes(t, tree.Parts) {
		if n.Sort == api.KindVar {
			end = max(end, n.N+1)
		}
	}
	return end
}
