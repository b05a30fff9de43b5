package term_test

import (
	"math/rand"
	"testing"

	"swingle/api"
	"swingle/term"
)

// P1.6: by size, then by Op, by N, and by the Kids.
func TestCompare(t *testing.T) {
	for i, x := range []struct {
		a, b api.Term
		want int
	}{
		{z(), num(7), 1},
		{null(), s(z()), -1},
		{v(1), v(0), 1},
		{s(v(0)), s(v(0)), 0},
		{num(-2), num(1), -1},
		{num(-2), num(-2), 0},
		{num(-1), num(-2), 1},
		{v(19), num(-1000000), -1},
		{num(1000000), node(api.TermCon, 0), -1},
		{z(), part(), -1},
		{s(z()), part(v(0)), -1},
		{part(z()), z(), 1},
		{cons(z(), null()), cons(null(), z()), -1},
		{cons(z(), z()), cons(z(), null()), -1},
		{cons(v(0), s(z())), cons(s(v(0)), v(0)), -1},
		{cons(s(z()), z()), cons(null(), s(z())), 1},
		{s(cons(z(), z())), cons(z(), s(z())), -1},
		{cons(z(), s(z())), s(s(s(s(v(0))))), -1},
		{cons(num(1), z()), cons(v(5), null()), 1},
		{s(s(s(z()))), cons(z(), s(v(0))), -1},
	} {
		if n, e := term.Compare(sig(), x.a, x.b); e != api.OK || n != x.want {
			t.Error(i, n, e)
		}
		if n, e := term.Compare(sig(), x.b, x.a); e != api.OK || n != -x.want {
			t.Error(i, n, e)
		}
	}
}

// P1.6: TermParts of one function can have different numbers of Kids.
func TestCompareParts(t *testing.T) {
	g := sig()
	g.Funs = append(g.Funs, api.TermName{Name: "three", Args: 3})
	three := func(kids ...api.Term) api.Term { return node(api.TermPart, 2, kids...) }
	if n, e := term.Compare(g, three(s(z())), three(z(), z())); e != api.OK || n != 1 {
		t.Error(n, e)
	}
	if n, e := term.Compare(g, three(z(), z()), three(s(v(0)))); e != api.OK || n != -1 {
		t.Error(n, e)
	}
	if n, e := term.Compare(g, three(), part()); e != api.OK || n != 1 {
		t.Error(n, e)
	}
}

func TestCompareWrong(t *testing.T) {
	for i, x := range [][2]api.Term{
		{node(api.TermFun, 1), z()}, {z(), node(api.TermFun, 1)}, {z(), node(api.TermAdd, 0, z(), z())},
		{v(20), z()}, {z(), {}}, {let(0, z(), z()), z()}, {z(), node(api.TermBot, 0)},
	} {
		if n, e := term.Compare(sig(), x[0], x[1]); e != api.ErrArg || n != 0 {
			t.Error(i, n, e)
		}
	}
	if n, e := term.Compare(api.TermSig{}, z(), num(1)); e != api.ErrArg || n != 0 {
		t.Error(n, e)
	}
}

// P1.6: of any three values, an order that goes one way, and 0 just for equal ones.
func TestCompareIsOrder(t *testing.T) {
	r := rand.New(rand.NewSource(6))
	var list []api.Term
	for range 60 {
		list = append(list, randomValue(r, 3, 2))
	}
	table := make([][]int, len(list))
	for i, a := range list {
		for _, b := range list {
			n, e := term.Compare(sig(), a, b)
			if e != api.OK || n < -1 || n > 1 || (n == 0) != same(a, b) || count(a) < count(b) && n != -1 {
				t.Fatal(a, b, n, e)
			}
			table[i] = append(table[i], n)
		}
	}
	for i := range list {
		for j := range list {
			if table[i][j] != -table[j][i] {
				t.Fatal(list[i], list[j])
			}
			for k := range list {
				if table[i][j] <= 0 && table[j][k] <= 0 && table[i][k] > 0 {
					t.Fatal(list[i], list[j], list[k])
				}
			}
		}
	}
}
