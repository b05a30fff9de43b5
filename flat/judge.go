package flat

import (
	"slices"

	"swingle/api"
	"swingle/attempt"
	"swingle/formed"
	"swingle/lists"
)

// isRight returns whether a flat program is right.
func isRight(f api.FlatProg) bool {
	if !formed.Program(f.Prog) || len(f.Trees) != len(f.Prog.Sig.Funs) {
		return false
	}
	for fun := range f.Trees {
		if !isTree(walk{f, fun}) {
			return false
		}
	}
	return true
}

// isTree returns whether the tree of a function is right.
func isTree(w walk) bool {
	right, _ := attempt.Do(func() bool {
		seen := met{rules: map[int]bool{}}
		w.lead(judge{w, shape{}.given(w.Prog.Sig.Funs[w.fun].Args), &seen})
		for n, r := range w.Prog.Rules {
			if r.Fun == w.fun && !seen.rules[n] {
				return false
			}
		}
		return true
	})
	return right
}

// met is what judges of one tree have met.
type met struct {
	nodes int
	rules map[int]bool
}

// judge is a visitor that goes all ways, and gives up at a node that is not
// formed, or has a rule that was met before.
type judge struct {
	walk
	shape
	*met
}

// asks returns what a node of each Op must have.
func asks() [api.FlatFail + 1]func(judge, api.FlatTree) {
	return [api.FlatFail + 1]func(judge, api.FlatTree){
		api.FlatCase: judge.branch,
		api.FlatOr:   judge.or,
		api.FlatRule: judge.rule,
		api.FlatFail: judge.nothing,
	}
}

// must gives up with a tree that is not right.
func must(is bool) {
	if !is {
		panic(attempt.GiveUp{Why: api.ErrArg})
	}
}

// meets counts the nodes, too, so that it gives up with a tree that is endless.
func (j judge) meets(node api.FlatTree) {
	j.nodes++
	must(j.nodes <= api.FlatNodes && api.FlatCase <= node.Op && node.Op <= api.FlatFail)
	asks()[node.Op](j, node)
}

func (j judge) takes(v int, alt api.FlatAlt) (visitor, bool) {
	return judge{j.walk, j.with(v, alt.Con, len(alt.Vars)), j.met}, true
}

func (j judge) branch(node api.FlatTree) {
	must(j.has(node.Var) && len(node.Alts) > 0)
	before := -1
	for _, alt := range node.Alts {
		must(before < alt.Con && lists.Has(j.Prog.Sig.Cons, alt.Con))
		args := j.Prog.Sig.Cons[alt.Con].Args
		must(len(j.shape)+args <= api.FlatVars && slices.Equal(alt.Vars, j.next(args)))
		before = alt.Con
	}
	node.Var, node.Alts = 0, nil
	j.nothing(node)
}

func (j judge) or(node api.FlatTree) {
	must(2 <= len(node.Kids) && len(node.Kids) <= api.FlatKids)
	node.Kids = nil
	j.nothing(node)
}

func (j judge) rule(node api.FlatTree) {
	must(lists.Has(j.Prog.Rules, node.Rule) && !j.rules[node.Rule])
	j.rules[node.Rule] = true
	r := j.Prog.Rules[node.Rule]
	must(r.Fun == j.fun)
	vars, ok := j.places(r)
	must(ok && slices.Equal(node.Vars, vars))
	node.Rule, node.Vars = 0, nil
	j.nothing(node)
}

// nothing asks that a node has nothing more: other nodes are asked so, too, without what is theirs.
func (j judge) nothing(node api.FlatTree) {
	must(node.Var == 0 && len(node.Alts) == 0 && len(node.Kids) == 0 && node.Rule == 0 && len(node.Vars) == 0)
}
