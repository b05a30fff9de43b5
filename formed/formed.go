// Package formed tells which types, data types, programs and modules are
// formed, and which values are arguments, as the chapters of the layers 2, 3
// and 5 define it: these layers ask for it, and the ones above them. It calls
// the layer 1.
//
// No function relies on anything: they look at lengths before they go through
// lists, so that they also end for arguments that lead back to themselves.
package formed

import (
	"slices"

	"swingle/api"
	"swingle/lists"
	"swingle/term"
)

// Datas returns whether data types are formed.
func Datas(datas []api.KindData) bool {
	if len(datas) < 1 || len(datas) > api.KindDatas || !isBool(datas[0]) {
		return false
	}
	taken := map[string]bool{}
	cons := 0
	for _, d := range datas {
		cons += len(d.Cons)
		if taken[d.Name] || cons > api.TermCons || !dataFormed(datas, d) {
			return false
		}
		taken[d.Name] = true
	}
	return true
}

// Type returns whether a type is formed, for data types that are.
func Type(datas []api.KindData, t api.KindType) bool {
	return typeFormed(datas, t, api.KindVars)
}

// Program returns whether a program is formed.
func Program(p api.RuleProg) bool {
	if term.CheckSig(p.Sig) != api.OK || len(p.Rules) > api.RuleRules {
		return false
	}
	for _, r := range p.Rules {
		if !ruleFormed(p.Sig, r) {
			return false
		}
	}
	return true
}

// Args returns whether values are the arguments of a function.
func Args(s api.TermSig, fun int, args []api.Term) bool {
	isValue := func(t api.Term) bool {
		is, _, e := term.IsValue(s, t)
		return is && e == api.OK
	}
	return lists.Has(s.Funs, fun) && len(args) == s.Funs[fun].Args && lists.All(args, isValue)
}

// Module returns whether a module is formed.
func Module(m api.ReadModule) bool {
	if !Datas(m.Datas) || !Program(m.Prog) {
		return false
	}
	var args []int
	for _, d := range m.Datas {
		for _, types := range d.Cons {
			args = append(args, len(types))
		}
	}
	return slices.EqualFunc(args, m.Prog.Sig.Cons, func(n int, c api.TermName) bool { return n == c.Args })
}
