package rule

import (
	"slices"

	"swingle/api"
	"swingle/attempt"
	"swingle/lists"
)

// plan says what a node of a definitional tree is, for some rules and a shape
// which all of them fit.
type plan interface {
	node() api.RuleNode // without what is below it
}

// leaf has rules that match the shape; without any it is a fail.
type leaf struct{ rules []int }

// branch is at a position, with the constructors that rules have there, increasing.
type branch struct {
	at   position
	cons []int
}

// parted is an or of the trees of the rules.
type parted struct{ first, others []int }

func (l leaf) node() api.RuleNode {
	if len(l.rules) == 0 {
		return api.RuleNode{Op: api.RuleFail}
	}
	return api.RuleNode{Op: api.RuleLeaf, Rules: l.rules}
}

func (b branch) node() api.RuleNode {
	return api.RuleNode{Op: api.RuleBranch, Path: b.at.path(), Cons: b.cons}
}

func (p parted) node() api.RuleNode {
	return api.RuleNode{Op: api.RuleOr}
}

// plan returns what the node for rules is. All of them fit the shape, and have
// a constructor wherever it has one.
func (s shape) plan(rules []int) plan {
	if lists.All(rules, s.matches) {
		return leaf{slices.Clone(rules)}
	}
	if at, ok := s.neededByAll(rules); ok {
		return branch{at, s.consAt(rules, at)}
	}
	matching, others := divide(rules, s.matches)
	if len(matching) > 0 {
		return parted{matching, others}
	}
	at := s.firstNeeded(rules[0])
	needing, others := divide(rules, func(rule int) bool { return s.needsAt(rule, at) })
	return parted{needing, others}
}

func (s shape) needsAt(rule int, wanted position) bool {
	for at := range s.needs(rule) {
		if at == wanted {
			return true
		}
	}
	return false
}

// consAt returns the constructors that rules have at a position which they need, increasing.
func (s shape) consAt(rules []int, at position) []int {
	var cons []int
	for _, rule := range rules {
		cons = append(cons, s.con(rule, at))
	}
	slices.Sort(cons)
	return slices.Compact(cons)
}

// treeOf returns the tree of a function, or gives up if it is too large.
func treeOf(p api.RuleProg, fun int) api.RuleNode {
	count := 0
	var grow func(s shape, rules []int) api.RuleNode
	grow = func(s shape, rules []int) api.RuleNode {
		count++
		if count > api.RuleTree {
			panic(attempt.GiveUp{Why: api.ErrLong})
		}
		what := s.plan(rules)
		made := what.node()
		switch x := what.(type) {
		case branch:
			for _, con := range x.cons {
				have, _ := divide(rules, func(rule int) bool { return s.con(rule, x.at) == con })
				made.Kids = append(made.Kids, grow(s.with(x.at, con), have))
			}
		case parted:
			first := grow(s, x.first)
			made.Kids = []api.RuleNode{first, grow(s, x.others)}
		}
		return made
	}
	return grow(shapeOf(p, fun), rulesOf(p, fun))
}

func kids(n api.RuleNode) []api.RuleNode { return n.Kids }
