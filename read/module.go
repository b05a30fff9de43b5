package read

import "swingle/api"

func moduleOf(said modulePhrase) spotted {
	datas := datasOf(said.datas)
	sig := api.TermSig{Cons: constructors(said.datas), Funs: functions(said.rules)}
	s := newScope(sig)
	rules := each(said.rules, s.ruleOf)
	spots := each(said.rules, func(r rulePhrase) api.ReadSpot { return r.spot })
	return spotted{api.ReadModule{Datas: datas, Prog: api.RuleProg{Sig: sig, Rules: rules}}, spots}
}

func datasOf(said []dataPhrase) []api.KindData {
	around := typeScope{datas: newIndex("Bool"), params: []int{0}}
	for _, d := range said {
		around.datas.add(d.name)
		around.params = append(around.params, len(d.params))
	}
	truth := api.KindData{Name: "Bool", Cons: make([][]api.KindType, 2)}
	return append([]api.KindData{truth}, each(said, around.dataOf)...)
}

func (s typeScope) dataOf(d dataPhrase) api.KindData {
	s.vars = newIndex(d.params...)
	if s.vars.has("int") {
		panic(giveUp{api.ErrRule})
	}
	types := func(c conPhrase) []api.KindType { return each(c.types, s.kind) }
	return api.KindData{Name: d.name, Params: len(d.params), Cons: each(d.cons, types)}
}

// constructors leaves it to the scope that two of them can't have one name.
func constructors(said []dataPhrase) []api.TermName {
	names := []api.TermName{{Name: "False"}, {Name: "True"}}
	for _, d := range said {
		for _, c := range d.cons {
			names = append(names, api.TermName{Name: c.name, Args: len(c.types)})
		}
	}
	return names
}

// functions gives up if two rules of one have different numbers of patterns.
func functions(said []rulePhrase) []api.TermName {
	var names []api.TermName
	known := index{}
	for _, r := range said {
		if !known.has(r.fun) {
			known.add(r.fun)
			names = append(names, api.TermName{Name: r.fun, Args: len(r.pats)})
		}
		if names[known.number(r.fun)].Args != len(r.pats) {
			panic(giveUp{api.ErrRule})
		}
	}
	return names
}

func (s scope) ruleOf(said rulePhrase) api.RuleRule {
	around := s.rule()
	pats := each(said.pats, around.pattern)
	rhs := around.term(said.rhs)
	return api.RuleRule{Fun: s.funs.number(said.fun), Pats: pats, Rhs: rhs, Vars: len(around.vars)}
}

func (s scope) goalOf(said phrase) goal {
	around := s.rule()
	made := around.term(said)
	return goal{made, around.vars}
}

func typeOf(datas []api.KindData, said typePhrase) api.KindType {
	s := typeScope{datas: index{}, vars: index{}, open: true}
	for _, d := range datas {
		s.datas.add(d.Name)
		s.params = append(s.params, d.Params)
	}
	return s.kind(said)
}
