package term_test

import (
	"math/rand"
	"slices"
	"strconv"
	"testing"

	"swingle/api"
	"swingle/build"
	"swingle/term"
)

// sig is the signature of the chapter's examples, with a constructor of four arguments at the end.
func sig() api.TermSig {
	return api.TermSig{
		Cons: []api.TermName{{Name: "False"}, {Name: "True"}, {Name: "Z"}, {Name: "S", Args: 1}, {Name: "Nil"}, {Name: "Cons", Args: 2}, {Name: "Four", Args: 4}},
		Funs: []api.TermName{{Name: "app", Args: 2}, {Name: "one"}},
	}
}

// Short names.
var (
	node = build.Node
	v    = build.Var
	num  = build.Num
	let  = build.Let
)

func z() api.Term { return node(api.TermCon, 2) }

func s(t api.Term) api.Term { return node(api.TermCon, 3, t) }

func null() api.Term { return node(api.TermCon, 4) }

func cons(a, b api.Term) api.Term { return node(api.TermCon, 5, a, b) }

func four(a, b, c, d api.Term) api.Term { return node(api.TermCon, 6, a, b, c, d) }

func part(kids ...api.Term) api.Term { return node(api.TermPart, 0, kids...) }

func bind(n int, t api.Term) api.TermBind { return api.TermBind{Var: n, Term: t} }

func binds(l ...api.TermBind) []api.TermBind { return l }

// tower is so many S around a term.
func tower(high int, t api.Term) api.Term {
	for range high {
		t = s(t)
	}
	return t
}

// full is a tree of Cons, of 2^high leaves.
func full(high int, leaf api.Term) api.Term {
	if high == 0 {
		return leaf
	}
	return cons(full(high-1, leaf), full(high-1, leaf))
}

func same(a, b api.Term) bool {
	return a.Op == b.Op && a.N == b.N && slices.EqualFunc(a.Kids, b.Kids, same)
}

func sameBind(a, b api.TermBind) bool { return a.Var == b.Var && same(a.Term, b.Term) }

func sameList(a, b []api.TermBind) bool { return slices.EqualFunc(a, b, sameBind) }

func count(t api.Term) int {
	n := 1
	for _, k := range t.Kids {
		n += count(k)
	}
	return n
}

func copyOf(t api.Term) api.Term {
	c := api.Term{Op: t.Op, N: t.N}
	for _, k := range t.Kids {
		c.Kids = append(c.Kids, copyOf(k))
	}
	return c
}

// put is what Subst does for values, without limits.
func put(t api.Term, l []api.TermBind) api.Term {
	for _, b := range l {
		if t.Op == api.TermVar && t.N == b.Var {
			return copyOf(b.Term)
		}
	}
	c := api.Term{Op: t.Op, N: t.N}
	for _, k := range t.Kids {
		c.Kids = append(c.Kids, put(k, l))
	}
	return c
}

// nameless writes an expression without the names of what TermLets bind: how
// many TermLets are between is written instead. Free variables are written by
// name.
func nameless(t api.Term, around []int, name func(int) string) string {
	if t.Op == api.TermVar {
		for i := range around {
			if around[len(around)-1-i] == t.N {
				return "up" + strconv.Itoa(i)
			}
		}
		return name(t.N)
	}
	text := "(" + strconv.Itoa(int(t.Op))
	if t.Op != api.TermLet {
		text += ":" + strconv.Itoa(t.N)
	}
	for i, k := range t.Kids {
		inside := around
		if t.Op == api.TermLet && i == 1 {
			inside = append(slices.Clone(around), t.N)
		}
		text += " " + nameless(k, inside, name)
	}
	return text + ")"
}

func named(n int) string { return "v" + strconv.Itoa(n) }

// randomTerm returns an expression of at most so much depth.
func randomTerm(r *rand.Rand, deep, vars int) api.Term {
	sub := func() api.Term { return randomTerm(r, deep-1, vars) }
	if deep <= 1 {
		return []api.Term{v(r.Intn(vars)), v(r.Intn(vars)), num(r.Intn(3)), z(), part()}[r.Intn(5)]
	}
	switch r.Intn(7) {
	case 0:
		return v(r.Intn(vars))
	case 1:
		return s(sub())
	case 2:
		return node(api.TermFun, 0, sub(), sub())
	case 3:
		return node(api.TermOr, 0, sub(), sub())
	case 4:
		return cons(sub(), sub())
	}
	return let(r.Intn(vars), sub(), sub())
}

// randomValue returns a value of at most so much depth; without variables if vars is 0.
func randomValue(r *rand.Rand, deep, vars int) api.Term {
	sub := func() api.Term { return randomValue(r, deep-1, vars) }
	pick := r.Intn(8)
	switch {
	case vars > 0 && pick < 3:
		return v(r.Intn(vars))
	case deep <= 1 || pick == 3:
		return []api.Term{num(r.Intn(2)), z(), null(), part()}[r.Intn(4)]
	case pick == 4:
		return s(sub())
	case pick == 5:
		return part(sub())
	}
	return cons(sub(), sub())
}

// randomList returns a binding list of what make makes.
func randomList(r *rand.Rand, vars int, make func() api.Term) []api.TermBind {
	var l []api.TermBind
	for n := range vars {
		if r.Intn(2) == 0 {
			l = append(l, bind(n, make()))
		}
	}
	return l
}

// kidsOf gathers the lists of Kids of an expression.
func kidsOf(t api.Term, lists *[][]api.Term) {
	if len(t.Kids) > 0 {
		*lists = append(*lists, t.Kids)
	}
	for _, k := range t.Kids {
		kidsOf(k, lists)
	}
}

// checkApart fails if two of some expressions, or two parts of one, share memory.
func checkApart(t *testing.T, what string, terms ...api.Term) {
	t.Helper()
	var lists [][]api.Term
	for _, x := range terms {
		kidsOf(x, &lists)
	}
	owner := map[*api.Term]bool{}
	for _, l := range lists {
		l = l[:cap(l)]
		for i := range l {
			if owner[&l[i]] {
				t.Fatal(what, "shares memory")
			}
			owner[&l[i]] = true
		}
	}
}

func mustCheck(t *testing.T, x api.Term) {
	t.Helper()
	if e := term.Check(sig(), x); e != api.OK {
		t.Fatal("not formed:", x)
	}
}
