package build_test

import (
	"reflect"
	"testing"

	"swingle/api"
	"swingle/build"
)

func TestTerms(t *testing.T) {
	x, y := api.Term{Op: api.TermVar, N: 3}, api.Term{Op: api.TermInt, N: -4}
	of := func(op api.TermOp, n int) api.Term { return api.Term{Op: op, N: n, Kids: []api.Term{x, y}} }
	for i, c := range []struct{ got, want api.Term }{
		{build.Var(3), x}, {build.Num(-4), y},
		{build.Con(5, x, y), of(api.TermCon, 5)}, {build.Fun(6, x, y), of(api.TermFun, 6)}, {build.Part(7, x, y), of(api.TermPart, 7)},
		{build.Let(8, x, y), of(api.TermLet, 8)}, {build.Or(x, y), of(api.TermOr, 0)}, {build.Node(api.TermAdd, 9, x, y), of(api.TermAdd, 9)},
		{build.Tower(0, 1, x), x}, {build.Tower(2, 1, x), build.Con(1, build.Con(1, x))},
	} {
		if !reflect.DeepEqual(c.got, c.want) {
			t.Error(i, c.got)
		}
	}
	if !reflect.DeepEqual(build.Terms(x, y), []api.Term{x, y}) {
		t.Error(build.Terms(x, y))
	}
}

func TestTypes(t *testing.T) {
	x, y := api.KindType{Sort: api.KindVar, N: 3}, api.KindType{Sort: api.KindInt}
	parts := []api.KindType{x, y}
	for i, c := range []struct{ got, want api.KindType }{
		{build.TypeVar(3), x}, {build.Integers(), y},
		{build.Arrow(x, y), api.KindType{Sort: api.KindFun, Parts: parts}}, {build.OfData(5, x, y), api.KindType{Sort: api.KindOfData, N: 5, Parts: parts}},
	} {
		if !reflect.DeepEqual(c.got, c.want) {
			t.Error(i, c.got)
		}
	}
}
