package read

import "swingle/api"

// normal returns a module in normal form.
func normal(m api.ReadModule) api.ReadModule {
	return api.ReadModule{
		Datas: each(m.Datas, copyData),
		Prog: api.RuleProg{
			Sig:   api.TermSig{Cons: each(m.Prog.Sig.Cons, same), Funs: each(m.Prog.Sig.Funs, same)},
			Rules: each(m.Prog.Rules, normalRule),
		},
	}
}

func same[T any](x T) T { return x }

func copyData(d api.KindData) api.KindData {
	types := func(args []api.KindType) []api.KindType { return each(args, copyType) }
	return api.KindData{Name: d.Name, Params: d.Params, Cons: each(d.Cons, types)}
}

func copyType(t api.KindType) api.KindType {
	return api.KindType{Sort: t.Sort, N: t.N, Parts: each(t.Parts, copyType)}
}

// normalRule needs no scopes: in a rule that is formed each TermLet has a variable of its own.
func normalRule(r api.RuleRule) api.RuleRule {
	numbers := map[int]int{}
	var number func(t api.Term) api.Term
	number = func(t api.Term) api.Term {
		made := api.Term{Op: t.Op, N: t.N}
		if t.Op == api.TermVar || t.Op == api.TermLet {
			if _, ok := numbers[t.N]; !ok {
				numbers[t.N] = len(numbers)
			}
			made.N = numbers[t.N]
		}
		made.Kids = each(t.Kids, number)
		return made
	}
	pats := each(r.Pats, number)
	rhs := number(r.Rhs)
	return api.RuleRule{Fun: r.Fun, Pats: pats, Rhs: rhs, Vars: len(numbers)}
}
