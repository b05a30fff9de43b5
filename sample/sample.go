// Package sample has sources and programs for the tests of several layers. The
// program itself does not use it.
package sample

import (
	"swingle/api"
	"swingle/build"
)

// Datas is a source of data types with the constructors False, True, Z 2, S 3,
// Nil 4, Cons 5 and Tri 6.
const Datas = "data Nat = Z | S(Nat); data List = Nil | Cons(Nat, List); data Tri = Tri(Nat, Nat, Nat);"

// Rules is a source of the rules of layer 5's examples: of add 0, or 1, coin 2
// and len 3.
const Rules = `
add(Z, y) = y;
add(S(x), y) = S(add(x, y));
or(True, y) = True;
or(x, True) = True;
or(False, False) = False;
coin = Z;
coin = S(Z);
len(Cons(x, l)) = S(len(l));
len(z) = add(v, v);
`

// Rule is a rule whose variables are numbered from 0 on as they come, and which
// is 1.
func Rule(fun int, pats ...api.Term) api.RuleRule {
	next := 0
	var number func(list []api.Term) []api.Term
	number = func(list []api.Term) []api.Term {
		var made []api.Term
		for _, x := range list {
			x.Kids = number(x.Kids)
			if x.Op == api.TermVar {
				x.N = next
				next++
			}
			made = append(made, x)
		}
		return made
	}
	pats = number(pats)
	return api.RuleRule{Fun: fun, Pats: pats, Rhs: build.Num(1), Vars: next}
}

// Wide is a program with the constructors False, True, Z 2, Q 3 and R 5 with 4
// arguments, and S 4 with one, and with the functions f with 4 and g with one.
func Wide(rules ...api.RuleRule) api.RuleProg {
	return api.RuleProg{Sig: api.TermSig{
		Cons: []api.TermName{{Name: "False"}, {Name: "True"}, {Name: "Z"}, {Name: "Q", Args: 4}, {Name: "S", Args: 1}, {Name: "R", Args: 4}},
		Funs: []api.TermName{{Name: "f", Args: 4}, {Name: "g", Args: 1}},
	}, Rules: rules}
}

// Thicket is a pattern of 4 n + 1 constructors of Wide.
func Thicket(n int) api.Term {
	pat := build.Con(2)
	for range n {
		pat = build.Con(3, build.Con(2), pat, build.Con(2), build.Con(2))
	}
	return pat
}
