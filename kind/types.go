package kind

import "swingle/api"

// unifier returns the most general unifier of two types. The node of the type
// variable n is the node n, so that the lesser one of two stays.
func unifier(a, b api.KindType) []api.KindBind {
	g := &graph{}
	vars := map[int]int{}
	for n := range api.KindVars {
		g.nodeOf(n, vars)
	}
	g.unify(g.put(a, vars), g.put(b, vars))
	g.mustEnd()
	var list []api.KindBind
	for n := range api.KindVars {
		if g.root(n) != n {
			list = append(list, api.KindBind{Var: n, Type: g.read(n, vars)})
		}
	}
	return list
}

// match returns the match of one type to another one, whose type variables
// stand for themselves and have nothing to do with those of the first one.
func match(a, b api.KindType) []api.KindBind {
	g := &graph{}
	vars := map[int]int{}
	g.unify(g.put(a, vars), g.put(b, g.allFixed()))
	var list []api.KindBind
	for n := range api.KindVars {
		if at, ok := vars[n]; ok {
			list = append(list, api.KindBind{Var: n, Type: g.read(at, map[int]int{})})
		}
	}
	return list
}
