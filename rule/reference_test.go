package rule_test

import (
	"slices"
	"sort"
	"strings"

	"swingle/api"
)

// cells are the constructors of arguments by their positions, whose numbers are
// bytes: so positions are in order as strings are. This file follows the
// definitions with them word by word, to have something to compare with.
type cells map[string]int

// other is what stands where a value is no variable, and has no constructor.
const other = -1

func cellsOf(args []api.Term) cells {
	made := cells{}
	var fill func(at string, list []api.Term)
	fill = func(at string, list []api.Term) {
		for i, x := range list {
			here := at + string(rune(i))
			switch x.Op {
			case api.TermVar:
			case api.TermCon:
				made[here] = x.N
				fill(here, x.Kids)
			default:
				made[here] = other
			}
		}
	}
	fill("", args)
	return made
}

// fits returns whether a rule with the pats fits a shape.
func (pats cells) fits(shape cells) bool {
	for at, c := range pats {
		if has, ok := shape[at]; ok && has != c {
			return false
		}
	}
	return true
}

func (pats cells) matches(shape cells) bool {
	for at, c := range pats {
		if has, ok := shape[at]; !ok || has != c {
			return false
		}
	}
	return true
}

// needs are the positions where the shape has a variable, and the pats have a constructor.
func (pats cells) needs(shape cells) []string {
	var list []string
	for at := range pats {
		_, above := shape[at[:len(at)-1]]
		_, here := shape[at]
		if (above || len(at) == 1) && !here {
			list = append(list, at)
		}
	}
	sort.Strings(list)
	return list
}

func (shape cells) with(at string, con int) cells {
	made := cells{at: con}
	for at, c := range shape {
		made[at] = c
	}
	return made
}

func pathOf(at string) []int {
	var path []int
	for _, r := range at {
		path = append(path, int(r))
	}
	return path
}

// definition is a function of a program, with the cells of its rules.
type definition struct {
	api.RuleProg
	fun   int
	rules []int
	pats  map[int]cells
}

func definitionOf(p api.RuleProg, fun int) definition {
	d := definition{p, fun, nil, map[int]cells{}}
	for n, r := range p.Rules {
		if r.Fun == fun {
			d.rules = append(d.rules, n)
			d.pats[n] = cellsOf(r.Pats)
		}
	}
	return d
}

// that returns those of some rules for which something is so, and the others.
func (d definition) that(rules []int, is func(pats cells) bool) (those, others []int) {
	for _, n := range rules {
		if is(d.pats[n]) {
			those = append(those, n)
		} else {
			others = append(others, n)
		}
	}
	return those, others
}

// tree returns the definitional tree of rules and a shape, however large it is.
func (d definition) tree(rules []int, shape cells) api.RuleNode {
	matching, others := d.that(rules, func(pats cells) bool { return pats.matches(shape) })
	switch {
	case len(rules) == 0:
		return api.RuleNode{Op: api.RuleFail}
	case len(others) == 0:
		return api.RuleNode{Op: api.RuleLeaf, Rules: rules}
	}
	first := d.pats[rules[0]].needs(shape)
	for _, at := range first {
		needing, _ := d.that(rules, func(pats cells) bool { return slices.Contains(pats.needs(shape), at) })
		if len(needing) < len(rules) {
			continue
		}
		node := api.RuleNode{Op: api.RuleBranch, Path: pathOf(at)}
		for con := range d.Sig.Cons {
			have, _ := d.that(rules, func(pats cells) bool { return pats[at] == con })
			if len(have) > 0 {
				node.Cons = append(node.Cons, con)
				node.Kids = append(node.Kids, d.tree(have, shape.with(at, con)))
			}
		}
		return node
	}
	if len(matching) > 0 {
		return api.RuleNode{Op: api.RuleOr, Kids: []api.RuleNode{d.tree(matching, shape), d.tree(others, shape)}}
	}
	needing, others := d.that(rules, func(pats cells) bool { return slices.Contains(pats.needs(shape), first[0]) })
	return api.RuleNode{Op: api.RuleOr, Kids: []api.RuleNode{d.tree(needing, shape), d.tree(others, shape)}}
}

// missing returns the shape that is missing from a shape on, and whether there
// is one; it counts the shapes that are looked at, and goes on up to 1000.
func (d definition) missing(shape cells, groups [][]int, looks *int) (cells, bool) {
	*looks++
	fitting, _ := d.that(d.rules, func(pats cells) bool { return pats.fits(shape) })
	matching, _ := d.that(d.rules, func(pats cells) bool { return pats.matches(shape) })
	if len(fitting) == 0 || *looks > 1000 {
		return shape, true
	}
	if len(matching) > 0 {
		return nil, false
	}
	pats := d.pats[fitting[0]]
	at := pats.needs(shape)[0]
	for _, group := range groups {
		if !slices.Contains(group, pats[at]) {
			continue
		}
		for _, c := range group {
			if found, ok := d.missing(shape.with(at, c), groups, looks); ok {
				return found, true
			}
		}
	}
	return nil, false
}

// show writes a shape as showArgs does, and counts its variables.
func (d definition) show(shape cells) (string, int) {
	next := 0
	var write func(at string, args int) string
	write = func(at string, args int) string {
		var texts []string
		for i := range args {
			here := at + string(rune(i))
			c, ok := shape[here]
			if !ok {
				texts = append(texts, showTerm(d.Sig, v(next)))
				next++
				continue
			}
			text := d.Sig.Cons[c].Name
			if kids := write(here, d.Sig.Cons[c].Args); kids != "" {
				text += "(" + kids + ")"
			}
			texts = append(texts, text)
		}
		return strings.Join(texts, ", ")
	}
	return write("", d.Sig.Funs[d.fun].Args), next
}
