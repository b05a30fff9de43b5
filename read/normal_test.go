package read_test

import (
	"math/rand"
	"slices"
	"strconv"
	"strings"
	"testing"

	"swingle/api"
	"swingle/read"
	"swingle/term"
)

// P2.3: variables are numbered in the patterns first, then in the right side; the others are gone.
func TestNormal(t *testing.T) {
	m := listsModule(t)
	rule := func(fun, vars int, rhs api.Term, pats ...api.Term) api.RuleRule {
		return api.RuleRule{Fun: fun, Pats: pats, Rhs: rhs, Vars: vars}
	}
	for _, x := range []struct {
		rule api.RuleRule
		want string
	}{
		{rule(0, 1, v(0), con(2), v(0)), "0 [C2 v0] v0 1"},
		{rule(0, 20, v(19), con(2), v(19)), "0 [C2 v0] v0 1"},
		{rule(0, 20, v(18), con(3, v(7), v(3)), v(5)), "0 [C3(v0 v1) v2] v3 4"},
		{rule(1, 4, or(v(3), or(v(1), v(3))), v(2)), "1 [v0] or(v1 or(v2 v1)) 3"},
		{rule(1, 4, let(0, v(3), or(v(0), v(2))), v(2)), "1 [v0] let1(v2 or(v1 v0)) 3"},
		{rule(1, 9, or(let(5, v(8), let(4, v(5), v(4))), v(8)), v(2)), "1 [v0] or(let1(v2 let3(v1 v3)) v2) 4"},
		{rule(1, 3, let(2, num(1), num(2)), v(1)), "1 [v0] let1(i1 i2) 2"},
		{rule(2, 20, num(5)), "2 [] i5 0"},
	} {
		m.Prog.Rules = []api.RuleRule{x.rule}
		got, e := read.Normal(m)
		if e != api.OK || len(got.Prog.Rules) != 1 {
			t.Fatal(e, x.want)
		}
		if showRule(got.Prog.Rules[0]) != x.want {
			t.Errorf("got %v, want %v", showRule(got.Prog.Rules[0]), x.want)
		}
		got.Prog.Rules = m.Prog.Rules
		if showModule(got) != showModule(m) {
			t.Error(showModule(got))
		}
	}
}

// moduleMaker makes modules that are formed.
type moduleMaker struct {
	*rand.Rand
	api.ReadModule
}

func randomModule(r *rand.Rand) api.ReadModule {
	for {
		k := moduleMaker{Rand: r}
		k.datas()
		k.functions()
		if _, e := read.Normal(k.ReadModule); e == api.OK {
			return k.ReadModule
		}
	}
}

func (k *moduleMaker) datas() {
	k.Datas = []api.KindData{{Name: "Bool", Cons: make([][]api.KindType, 2)}}
	k.Prog.Sig.Cons = []api.TermName{{Name: "False"}, {Name: "True"}}
	names := []string{"List", "A", "Nil", "Abcdefgh", "False"}
	for i := range k.Intn(6) {
		d := api.KindData{Name: names[i], Params: k.Intn(4)}
		for range 1 + k.Intn(2) {
			name := "K" + strings.Repeat("x", k.Intn(3)) + string([]byte{byte('a' + len(k.Prog.Sig.Cons))})
			d.Cons = append(d.Cons, make([]api.KindType, k.Intn(5)))
			k.Prog.Sig.Cons = append(k.Prog.Sig.Cons, api.TermName{Name: name, Args: len(d.Cons[len(d.Cons)-1])})
		}
		k.Datas = append(k.Datas, d)
	}
	for _, d := range k.Datas {
		for _, types := range d.Cons {
			for i := range types {
				types[i] = k.kind(1+k.Intn(4), d.Params)
			}
		}
	}
}

func (k *moduleMaker) kind(deep, params int) api.KindType {
	switch pick := k.Intn(4); {
	case pick == 0 && deep > 1:
		return arrow(k.kind(deep-1, params), k.kind(deep-1, params))
	case pick == 1 && params > 0:
		return typeVar(k.Intn(params))
	case pick == 2 && deep > 1:
		n := k.Intn(len(k.Datas))
		made := ofData(n)
		for range k.Datas[n].Params {
			made.Parts = append(made.Parts, k.kind(deep-1, params))
		}
		return made
	}
	return integers()
}

// functions come in the order in which rules begin with them.
func (k *moduleMaker) functions() {
	names := []string{"f", "a", "app", "int", "abcdefgh", "c", "zz", "in"}
	names = names[:k.Intn(7)]
	for _, name := range names {
		k.Prog.Sig.Funs = append(k.Prog.Sig.Funs, api.TermName{Name: name, Args: k.Intn(5)})
	}
	for i := range names {
		k.Prog.Rules = append(k.Prog.Rules, k.rule(i))
		for range k.Intn(3) {
			k.Prog.Rules = append(k.Prog.Rules, k.rule(k.Intn(i+1)))
		}
	}
}

// rule gives variables numbers in any order, and has more of them than it needs.
func (k *moduleMaker) rule(fun int) api.RuleRule {
	for {
		next := 0
		r := api.RuleRule{Fun: fun}
		for range k.Prog.Sig.Funs[fun].Args {
			r.Pats = append(r.Pats, k.pattern(1+k.Intn(3), &next))
		}
		next += k.Intn(3)
		rhs := randomTerm(k.Rand, k.Prog.Sig, 1+k.Intn(5), allVars()[:min(next+1, 3)])
		if next = max(next, 3); next > api.TermVars {
			continue
		}
		rhs = apart(rhs, nil, &next)
		r.Vars = next + k.Intn(3)
		if r.Vars > api.TermVars || term.Check(k.Prog.Sig, rhs) != api.OK {
			continue
		}
		to := k.Perm(r.Vars)
		r.Pats = each(r.Pats, func(p api.Term) api.Term { return renamed(p, to) })
		r.Rhs = renamed(rhs, to)
		return r
	}
}

func (k *moduleMaker) pattern(deep int, next *int) api.Term {
	if deep <= 1 || k.Intn(3) == 0 {
		*next++
		return v(*next - 1)
	}
	n := k.Intn(len(k.Prog.Sig.Cons))
	made := con(n)
	for range k.Prog.Sig.Cons[n].Args {
		made.Kids = append(made.Kids, k.pattern(deep-1, next))
	}
	return made
}

// renamed puts for each variable the one that stands in a list.
func renamed(t api.Term, to []int) api.Term {
	made := api.Term{Op: t.Op, N: t.N, Kids: each(t.Kids, func(k api.Term) api.Term { return renamed(k, to) })}
	if t.Op == api.TermVar || t.Op == api.TermLet {
		made.N = to[t.N]
	}
	return made
}

// apart gives each TermLet a variable of its own.
func apart(t api.Term, lets map[int]int, next *int) api.Term {
	made := api.Term{Op: t.Op, N: t.N}
	if n, ok := lets[t.N]; ok && t.Op == api.TermVar {
		made.N = n
	}
	inside := lets
	if t.Op == api.TermLet {
		made.N = *next
		*next++
		inside = map[int]int{t.N: made.N}
		for x, n := range lets {
			if x != t.N {
				inside[x] = n
			}
		}
	}
	for i, k := range t.Kids {
		if i == 1 {
			made.Kids = append(made.Kids, apart(k, inside, next))
		} else {
			made.Kids = append(made.Kids, apart(k, lets, next))
		}
	}
	return made
}

// writer writes sources with blanks, names and brackets as it likes.
type writer struct {
	*rand.Rand
	api.ReadModule
	names []string // of variables, in a rule
	text  strings.Builder
}

func (w *writer) put(words ...string) {
	for _, word := range words {
		w.text.WriteString(word)
		w.text.WriteString([]string{" ", "\n", "  ", " # let x = \n", "#;\n", "\n\n"}[w.Intn(6)])
	}
}

// list puts a list between brackets, if there is something in it.
func list[T any](w *writer, parts []T, put func(T)) {
	for i, x := range parts {
		if i == 0 {
			w.put("(")
		} else {
			w.put(",")
		}
		put(x)
	}
	if len(parts) > 0 {
		w.put(")")
	}
}

func (w *writer) module() string {
	con := 2
	for i, d := range w.Datas {
		if i == 0 {
			continue
		}
		w.names = w.someNames("x", "xy", "app", "f")
		w.put("data", d.Name)
		w.put(w.names[:d.Params]...)
		for i, types := range d.Cons {
			w.put([]string{"=", "|"}[min(i, 1)], w.Prog.Sig.Cons[con].Name)
			list(w, types, w.kind)
			con++
		}
		w.put(";")
	}
	for _, r := range w.Prog.Rules {
		w.names = w.someNames(strings.Fields("x y abcdefgi int b d e g h i aa ab ac ad ae af ag ah ai inn lett")...)
		w.put(w.Prog.Sig.Funs[r.Fun].Name)
		list(w, r.Pats, w.term)
		w.put("=")
		w.term(r.Rhs)
		w.put(";")
	}
	return w.text.String()
}

// someNames mixes names that no function has.
func (w *writer) someNames(names ...string) []string {
	taken := each(w.Prog.Sig.Funs, func(n api.TermName) string { return n.Name })
	names = slices.DeleteFunc(names, func(name string) bool { return slices.Contains(taken, name) })
	for len(names) < api.TermVars {
		names = append(names, "v"+strings.Repeat("w", len(names)%7)+string([]byte{byte('a' + len(names))}))
	}
	w.Shuffle(len(names), func(i, j int) { names[i], names[j] = names[j], names[i] })
	return names
}

func (w *writer) kind(t api.KindType) {
	switch t.Sort {
	case api.KindVar:
		w.put(w.names[t.N])
	case api.KindInt:
		w.put("int")
	case api.KindOfData:
		w.put(w.Datas[t.N].Name)
		list(w, t.Parts, w.kind)
	case api.KindFun:
		w.put("(", "(")
		w.kind(t.Parts[0])
		w.put(")", "->")
		w.kind(t.Parts[1])
		w.put(")")
	}
}

// term puts brackets around all that has signs, or words.
func (w *writer) term(t api.Term) {
	switch t.Op {
	case api.TermVar:
		w.put(w.names[t.N])
	case api.TermInt:
		w.put(strings.Replace(strconv.Itoa(t.N), "-", "~", 1))
	case api.TermCon:
		w.put(w.Prog.Sig.Cons[t.N].Name)
		list(w, t.Kids, w.term)
	case api.TermFun, api.TermPart:
		w.put(w.Prog.Sig.Funs[t.N].Name)
		list(w, t.Kids, w.term)
	case api.TermLet:
		w.around("let "+w.names[t.N]+" =", t.Kids[0], "in", t.Kids[1])
	case api.TermWhen:
		w.around("when", t.Kids[0], "then", t.Kids[1])
	default:
		sign := map[api.TermOp]string{api.TermApply: "@", api.TermOr: "?", api.TermBoth: "&", api.TermUnify: "=:=", api.TermSame: "==", api.TermAdd: "+", api.TermSub: "-", api.TermLess: "<"}[t.Op]
		w.around("", t.Kids[0], sign, t.Kids[1])
	}
}

func (w *writer) around(begin string, a api.Term, middle string, b api.Term) {
	w.put("(", begin)
	w.term(a)
	w.put(middle)
	w.term(b)
	w.put(")")
}

// P2.2, P2.3, P2.4, P2.5: random modules: with any blanks and names, and as they are printed, they are read as what they are in normal form.
func TestRandomModules(t *testing.T) {
	r := rand.New(rand.NewSource(5))
	long, rules := 0, 0
	for i := range 1000 {
		m := randomModule(r)
		normal, e := read.Normal(m)
		if e != api.OK {
			t.Fatal(e, showModule(m))
		}
		checkNormal(t, m, normal)
		text, e := read.PrintModule(m)
		if e != api.OK {
			t.Fatal(e, showModule(m))
		}
		checkLayout(t, text)
		w := writer{Rand: r, ReadModule: m}
		for _, source := range []string{text, w.module()} {
			if len(source) > api.ReadLong {
				long++
				continue
			}
			if got := mustModule(t, source); showModule(got) != showModule(normal) {
				t.Fatalf("%v\ngot\n%v\nwant\n%v", source, showModule(got), showModule(normal))
			}
		}
		rules += len(m.Prog.Rules)
		if i%50 == 0 {
			checkPairs(t, text, showModule(normal))
		}
	}
	if long > 300 || rules < 3000 {
		t.Error("the modules are no good mixture:", long, rules)
	}
}

// checkPairs fails if a pair of brackets can be left out.
func checkPairs(t *testing.T, text, what string) {
	t.Helper()
	for _, pair := range pairs(text) {
		if less, e := read.Module(without(text, pair)); e == api.OK && showModule(less) == what {
			t.Fatalf("%v: the brackets %v can be left out", text, pair)
		}
	}
}

// checkNormal fails if a rule is no variant of what it was, or has its variables in another order.
func checkNormal(t *testing.T, m, normal api.ReadModule) {
	t.Helper()
	again, e := read.Normal(normal)
	if e != api.OK || showModule(again) != showModule(normal) {
		t.Fatal(e, showModule(again), showModule(normal))
	}
	for i, r := range normal.Prog.Rules {
		var to, from []int
		old := m.Prog.Rules[i]
		pairVariables(old.Rhs, r.Rhs, &from, &to)
		for k := range r.Pats {
			pairVariables(old.Pats[k], r.Pats[k], &from, &to)
		}
		forth, back := map[int]int{}, map[int]int{}
		for k := range from {
			if n, ok := forth[from[k]]; ok && n != to[k] {
				t.Fatal(showRule(old), showRule(r))
			}
			if n, ok := back[to[k]]; ok && n != from[k] {
				t.Fatal(showRule(old), showRule(r))
			}
			forth[from[k]], back[to[k]] = to[k], from[k]
		}
		first := firsts(r)
		if r.Vars != len(first) || !slices.IsSorted(first) || len(first) > 0 && first[len(first)-1] != len(first)-1 {
			t.Fatal(showRule(r))
		}
	}
}

// pairVariables puts the variables of two terms on two lists.
func pairVariables(a, b api.Term, from, to *[]int) {
	if a.Op == api.TermVar || a.Op == api.TermLet {
		*from, *to = append(*from, a.N), append(*to, b.N)
	}
	for i := range a.Kids {
		pairVariables(a.Kids[i], b.Kids[i], from, to)
	}
}

// firsts returns the variables of a rule, as they come first.
func firsts(r api.RuleRule) []int {
	var list, same []int
	for _, p := range append(slices.Clone(r.Pats), r.Rhs) {
		pairVariables(p, p, &list, &same)
	}
	var first []int
	for _, n := range list {
		if !slices.Contains(first, n) {
			first = append(first, n)
		}
	}
	return first
}
