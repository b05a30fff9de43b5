package flat

import (
	"slices"

	"swingle/api"
	"swingle/attempt"
	"swingle/fresh"
	"swingle/lists"
	"swingle/rule"
)

// flatOf returns the flat program of a program, or gives up if a tree is too large.
func flatOf(p api.RuleProg) api.FlatProg {
	made := api.FlatProg{Prog: fresh.Program(p)}
	for fun, f := range p.Sig.Funs {
		top, why := rule.Tree(p, fun)
		if why != api.OK {
			panic(attempt.GiveUp{Why: why})
		}
		made.Trees = append(made.Trees, flatTree(p, shape{}.given(f.Args), top))
	}
	if !isRight(made) {
		panic(attempt.GiveUp{Why: api.ErrLong})
	}
	return made
}

// flatTree returns the flat tree of a definitional one, for the shape that this goes with.
func flatTree(p api.RuleProg, s shape, n api.RuleNode) api.FlatTree {
	switch n.Op {
	case api.RuleLeaf:
		return leaf(p, s, n.Rules)
	case api.RuleBranch:
		made := api.FlatTree{Op: api.FlatCase, Var: s.at(n.Path)}
		for i, con := range n.Cons {
			args := p.Sig.Cons[con].Args
			then := flatTree(p, s.with(made.Var, con, args), n.Kids[i])
			made.Alts = append(made.Alts, api.FlatAlt{Con: con, Vars: s.next(args), Then: then})
		}
		return made
	case api.RuleOr:
		below := func(kid api.RuleNode) api.FlatTree { return flatTree(p, s, kid) }
		return api.FlatTree{Op: api.FlatOr, Kids: lists.Map(n.Kids, below)}
	}
	return api.FlatTree{Op: api.FlatFail}
}

// leaf returns the flat tree of rules whose Pats are the shape, but for the variables.
func leaf(p api.RuleProg, s shape, rules []int) api.FlatTree {
	kids := lists.Map(rules, func(n int) api.FlatTree {
		vars, _ := s.places(p.Rules[n])
		return api.FlatTree{Op: api.FlatRule, Rule: n, Vars: vars}
	})
	if len(kids) == 1 {
		return kids[0]
	}
	return api.FlatTree{Op: api.FlatOr, Kids: kids}
}

// rebuild returns a tree with what is made of those below it.
func rebuild(t api.FlatTree, of func(api.FlatTree) api.FlatTree) api.FlatTree {
	alts := lists.Map(t.Alts, func(alt api.FlatAlt) api.FlatAlt {
		return api.FlatAlt{Con: alt.Con, Vars: slices.Clone(alt.Vars), Then: of(alt.Then)}
	})
	return api.FlatTree{Op: t.Op, Var: t.Var, Alts: alts, Kids: lists.Map(t.Kids, of), Rule: t.Rule, Vars: slices.Clone(t.Vars)}
}

// again returns a tree that shares no memory with one.
func again(t api.FlatTree) api.FlatTree { return rebuild(t, again) }

// joined returns a tree whose ors are joined, or gives up if one has too many
// Kids. One that has too many is not in another one that has fewer: so it can
// give up before it looks at what is above.
func joined(t api.FlatTree) api.FlatTree {
	made := rebuild(t, joined)
	if t.Op != api.FlatOr {
		return made
	}
	var kids []api.FlatTree
	for _, kid := range made.Kids {
		switch kid.Op {
		case api.FlatOr:
			kids = append(kids, kid.Kids...)
		case api.FlatFail:
		default:
			kids = append(kids, kid)
		}
	}
	switch {
	case len(kids) > api.FlatKids:
		panic(attempt.GiveUp{Why: api.ErrLong})
	case len(kids) == 0:
		return api.FlatTree{Op: api.FlatFail}
	case len(kids) == 1:
		return kids[0]
	}
	made.Kids = kids
	return made
}
