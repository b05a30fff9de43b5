package class

import (
	"cmp"
	"slices"

	"swingle/api"
	"swingle/formed"
	"swingle/tree"
)

// head is what there is one instance for at most: a class, and what its types begin with.
type head struct {
	class int
	sort  api.KindSort
	n     int
}

func headOf(i api.ClassInst) head { return head{i.Class, i.Sort, i.N} }

// worldFormed returns whether a world is formed.
func worldFormed(w api.ClassWorld) bool {
	if !formed.Datas(w.Datas) || len(w.Above) > api.ClassMost || len(w.Insts) > api.ClassInsts {
		return false
	}
	for class, above := range w.Above {
		if !aboveFormed(class, above) {
			return false
		}
	}
	taken := map[head]bool{}
	for _, i := range w.Insts {
		if taken[headOf(i)] || !instFormed(w, i) {
			return false
		}
		taken[headOf(i)] = true
	}
	return true
}

func aboveFormed(class int, above []int) bool {
	outside := func(c int) bool { return c < 0 || c >= class }
	return len(above) <= class && increases(above, cmp.Compare[int]) && !slices.ContainsFunc(above, outside)
}

func instFormed(w api.ClassWorld, i api.ClassInst) bool {
	if !isClass(w, i.Class) {
		return false
	}
	isVar := func(n int) bool { return 0 <= n && n < partsOf(w.Datas, i.Sort, i.N) }
	return partsOf(w.Datas, i.Sort, i.N) >= 0 && needsFormed(w, i.Needs, isVar)
}

func isClass(w api.ClassWorld, class int) bool {
	return 0 <= class && class < len(w.Above)
}

// partsOf returns how many parts an instance's head has, or -1 if there is no such one.
func partsOf(datas []api.KindData, sort api.KindSort, n int) int {
	switch {
	case sort == api.KindInt && n == 0:
		return 0
	case sort == api.KindFun && n == 0:
		return 2
	case sort == api.KindOfData && 0 <= n && n < len(datas):
		return datas[n].Params
	}
	return -1
}

// needsFormed returns whether a list can be the needs of something that has certain type variables.
func needsFormed(w api.ClassWorld, needs []api.ClassPred, isVar func(n int) bool) bool {
	wrong := func(x api.ClassPred) bool {
		return !isClass(w, x.Class) || x.Type.Sort != api.KindVar || !isVar(x.Type.N) || len(x.Type.Parts) > 0
	}
	return len(needs) <= api.ClassNeeds && !slices.ContainsFunc(needs, wrong) && increases(needs, compareNeeds)
}

// compareNeeds orders predicates of type variables.
func compareNeeds(a, b api.ClassPred) int {
	return cmp.Or(cmp.Compare(a.Class, b.Class), cmp.Compare(a.Type.N, b.Type.N))
}

// increases returns whether a list is the same if it is sorted, and what is in it twice left out.
func increases[T any](list []T, compare func(a, b T) int) bool {
	equal := func(a, b T) bool { return compare(a, b) == 0 }
	sorted := slices.SortedFunc(slices.Values(list), compare)
	return slices.EqualFunc(list, slices.CompactFunc(sorted, equal), equal)
}

// predsFormed returns whether a list of predicates is formed, in a world that is.
func predsFormed(w api.ClassWorld, list []api.ClassPred) bool {
	wrong := func(x api.ClassPred) bool {
		return !isClass(w, x.Class) || !formed.Type(w.Datas, x.Type) || nodes(x.Type, tree.Parts) > api.ClassNodes
	}
	return len(list) <= api.ClassGivens && !slices.ContainsFunc(list, wrong)
}

// nodes counts the nodes of something that ends.
func nodes[T any](top T, below func(T) []T) int {
	count := 0
	for range tree.Nodes(top, below) {
		count++
	}
	return count
}

// small returns whether a proof is small; it need not end.
func small(d api.ClassDict) bool {
	count := 0
	for range tree.Nodes(d, kids) {
		count++
		if count > api.ClassProof {
			return false
		}
	}
	return true
}

func kids(d api.ClassDict) []api.ClassDict { return d.Kids }
