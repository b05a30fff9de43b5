package formed

import (
	"swingle/api"
	"swingle/letters"
	"swingle/tree"
)

func isBool(d api.KindData) bool {
	return d.Name == "Bool" && d.Params == 0 && len(d.Cons) == 2 && len(d.Cons[0]) == 0 && len(d.Cons[1]) == 0
}

// dataFormed looks at all but the name's being taken, and how many constructors there are in all.
func dataFormed(datas []api.KindData, d api.KindData) bool {
	if !letters.IsName(d.Name) || d.Params < 0 || d.Params > api.KindParams || len(d.Cons) == 0 {
		return false
	}
	for _, args := range d.Cons {
		if len(args) > api.TermArgs {
			return false
		}
		for _, t := range args {
			if !typeFormed(datas, t, d.Params) {
				return false
			}
		}
	}
	return true
}

// typeFormed returns whether a type is formed whose type variables are less than vars.
func typeFormed(datas []api.KindData, t api.KindType, vars int) bool {
	count := 0
	for n := range tree.Nodes(t, tree.Parts) {
		count++
		if count > api.KindNodes || !nodeFormed(datas, n, vars) {
			return false
		}
	}
	return true
}

func nodeFormed(datas []api.KindData, t api.KindType, vars int) bool {
	switch t.Sort {
	case api.KindVar:
		return 0 <= t.N && t.N < vars && len(t.Parts) == 0
	case api.KindInt:
		return t.N == 0 && len(t.Parts) == 0
	case api.KindFun:
		return t.N == 0 && len(t.Parts) == 2
	case api.KindOfData:
		return 0 <= t.N && t.N < len(datas) && len(t.Parts) == datas[t.N].Params
	}
	return false
}
