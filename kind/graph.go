package kind

import (
	"slices"

	"swingle/api"
	"swingle/attempt"
	"swingle/tree"
)

// sort is what is known of a node.
type sort int

// The sorts of nodes.
const (
	open  sort = iota // nothing: it can become any type
	fixed             // it is a type variable that stands for itself
	built             // it is a type of a kind, which has parts
)

// head is a node but for its parts: n is the type variable of a fixed one, and
// kind and n are those that types have of a built one.
type head struct {
	sort sort
	kind api.KindSort
	n    int
}

// node is a type that is looked for, or a part of one; to is another node that
// is the same type, or the node itself.
type node struct {
	head
	parts []int
	to    int
}

// graph has the nodes of types by their numbers. Types share the nodes of their
// parts, so that there are few nodes also where types have very many parts. A
// node of it can lead back to itself: whoever has made types the same asks
// mustEnd before reading any of them.
type graph struct {
	nodes []node
}

func (g *graph) add(h head, parts ...int) int {
	at := len(g.nodes)
	g.nodes = append(g.nodes, node{h, parts, at})
	return at
}

// some returns a type of which nothing is known.
func (g *graph) some() int { return g.add(head{sort: open}) }

func (g *graph) fixed(n int) int { return g.add(head{sort: fixed, n: n}) }

func (g *graph) integer() int { return g.add(head{sort: built, kind: api.KindInt}) }

func (g *graph) truth() int { return g.add(head{sort: built, kind: api.KindOfData}) }

func (g *graph) arrow(from, to int) int {
	return g.add(head{sort: built, kind: api.KindFun}, from, to)
}

// someFunction returns the most general type that has so many arguments.
func (g *graph) someFunction(args int) int {
	at := g.some()
	for range args {
		at = g.arrow(g.some(), at)
	}
	return at
}

// put returns the node of a type whose type variables have nodes, by their
// numbers; those that have none get new ones.
func (g *graph) put(t api.KindType, vars map[int]int) int {
	if t.Sort == api.KindVar {
		return g.nodeOf(t.N, vars)
	}
	var parts []int
	for _, p := range t.Parts {
		parts = append(parts, g.put(p, vars))
	}
	return g.add(head{built, t.Sort, t.N}, parts...)
}

func (g *graph) nodeOf(n int, vars map[int]int) int {
	at, ok := vars[n]
	if !ok {
		at = g.some()
		vars[n] = at
	}
	return at
}

// allFixed returns nodes for all type variables, each of which stands for itself.
func (g *graph) allFixed() map[int]int {
	vars := map[int]int{}
	for n := range api.KindVars {
		vars[n] = g.fixed(n)
	}
	return vars
}

// root returns the one of all nodes which were made the same that tells what they are.
func (g *graph) root(at int) int {
	for g.nodes[at].to != at {
		at = g.nodes[at].to
	}
	return at
}

// below returns the parts of a root.
func (g *graph) below(at int) []int {
	var parts []int
	for _, p := range g.nodes[at].parts {
		parts = append(parts, g.root(p))
	}
	return parts
}

// together goes through two lists of one length, and compares them element by element.
func together[A, B any](list []A, other []B, compare func(A, B)) {
	for i := range list {
		compare(list[i], other[i])
	}
}

// unify makes two types the same, or gives up. Of two open nodes the one with
// the lesser number stays.
func (g *graph) unify(a, b int) {
	a, b = g.root(a), g.root(b)
	x, y := g.nodes[a], g.nodes[b]
	switch {
	case a == b:
	case x.sort == open && y.sort == open:
		g.nodes[max(a, b)].to = min(a, b)
	case x.sort == open:
		g.nodes[a].to = b
	case y.sort == open:
		g.nodes[b].to = a
	case x.head != y.head:
		panic(attempt.GiveUp{Why: api.ErrRule})
	default:
		// Before the parts are the same, so that this ends also where they lead back here.
		g.nodes[a].to = b
		together(x.parts, y.parts, g.unify)
	}
}

// mustEnd gives up if a node is a part of itself: no type is.
func (g *graph) mustEnd() {
	const (
		unseen = iota
		entered
		left
	)
	states := make([]int, len(g.nodes))
	var visit func(at int)
	visit = func(at int) {
		switch states[at] {
		case entered:
			panic(attempt.GiveUp{Why: api.ErrRule})
		case unseen:
			states[at] = entered
			for _, p := range g.below(at) {
				visit(p)
			}
			states[at] = left
		}
	}
	for at := range g.nodes {
		visit(g.root(at))
	}
}

// read returns the type of a node. The numbers of type variables are those
// that their nodes have; the other ones get the next numbers, as they come
// first. It gives up if the type is not formed.
func (g *graph) read(at int, numbers map[int]int) api.KindType {
	count := 0
	for range tree.Nodes(g.root(at), g.below) {
		count++
		if count > api.KindNodes {
			panic(attempt.GiveUp{Why: api.ErrLong})
		}
	}
	return g.readSmall(g.root(at), numbers)
}

func (g *graph) readSmall(at int, numbers map[int]int) api.KindType {
	x := g.nodes[at]
	switch x.sort {
	case open:
		return typeVar(number(at, numbers))
	case fixed:
		return typeVar(x.n)
	}
	made := api.KindType{Sort: x.kind, N: x.n}
	for _, p := range g.below(at) {
		made.Parts = append(made.Parts, g.readSmall(p, numbers))
	}
	return made
}

func number(at int, numbers map[int]int) int {
	n, ok := numbers[at]
	if !ok {
		n = len(numbers)
		if n >= api.KindVars {
			panic(attempt.GiveUp{Why: api.ErrLong})
		}
		numbers[at] = n
	}
	return n
}

func typeVar(n int) api.KindType {
	return api.KindType{Sort: api.KindVar, N: n}
}

// arrows returns the type of what has arguments of some types, and a result.
func arrows(args []api.KindType, result api.KindType) api.KindType {
	for _, from := range slices.Backward(args) {
		result = api.KindType{Sort: api.KindFun, Parts: []api.KindType{from, result}}
	}
	return result
}
