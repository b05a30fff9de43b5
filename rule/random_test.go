package rule_test

import (
	"math/rand"
	"slices"
	"testing"

	"swingle/api"
	"swingle/rule"
	"swingle/sample"
)

// maker makes random programs and values. Most have the types of sample.Datas: an
// argument's kind is the number of the group that its constructors are in.
type maker struct {
	*rand.Rand
	api.TermSig
	kinds [][]int // of each function's arguments
	wild  bool    // without types
}

// argKinds are the kinds of each constructor's arguments.
func argKinds(con int) []int {
	return [][]int{nil, nil, nil, {1}, nil, {1, 2}, {1, 1, 1}}[con]
}

func newMaker(t *testing.T, seed int64) *maker {
	t.Helper()
	m := &maker{Rand: rand.New(rand.NewSource(seed)), TermSig: progOf(t, "f = 1;").Sig}
	m.Funs = nil
	for n, name := range []string{"f", "g", "h", "k", "l"} {
		m.Funs = append(m.Funs, api.TermName{Name: name, Args: n})
	}
	return m
}

// again chooses the kinds of the functions' arguments, and whether they count.
func (m *maker) again() {
	m.wild = m.Intn(4) == 0
	m.kinds = nil
	for _, f := range m.Funs {
		var list []int
		for range f.Args {
			list = append(list, m.Intn(4))
		}
		m.kinds = append(m.kinds, list)
	}
}

func (m *maker) con(kind int) int {
	if m.wild {
		return m.Intn(len(m.Cons))
	}
	group := groups()[kind]
	return group[m.Intn(len(group))]
}

// term makes a pattern, or a value: inside is what stands at its ends, if not a constructor.
func (m *maker) term(kind, deep int, inside func() api.Term) api.Term {
	c := m.con(kind)
	if deep == 0 || m.Intn(3) == 0 {
		return inside()
	}
	made := con(c)
	for _, k := range argKinds(c) {
		made.Kids = append(made.Kids, m.term(k, deep-1, inside))
	}
	return made
}

func (m *maker) rule(fun int) api.RuleRule {
	var pats []api.Term
	for _, kind := range m.kinds[fun] {
		pats = append(pats, m.term(kind, 1+m.Intn(3), func() api.Term { return v(0) }))
	}
	return sample.Rule(fun, pats...)
}

// prog makes rules of the function fun, and some others between them.
func (m *maker) prog(fun int) api.RuleProg {
	p := api.RuleProg{Sig: m.TermSig}
	for range m.Intn(8) {
		if m.Intn(6) == 0 {
			p.Rules = append(p.Rules, m.rule(m.Intn(len(m.Funs))))
		}
		if r := m.rule(fun); r.Vars <= api.TermVars {
			p.Rules = append(p.Rules, r)
		}
	}
	return p
}

// value makes a value of a kind; a ground one has no variables, integers and partial calls.
func (m *maker) value(kind, deep int, ground bool) api.Term {
	return m.term(kind, deep, func() api.Term {
		switch n := m.Intn(8); {
		case ground:
			return m.least(kind)
		case n == 0:
			return num(m.Intn(9) - 4)
		case n == 1:
			return node(api.TermPart, 1+m.Intn(4))
		case n < 5:
			return v(m.Intn(3))
		}
		return m.least(kind)
	})
}

// least is a small ground value.
func (m *maker) least(kind int) api.Term {
	made := con(m.con(kind))
	for _, k := range argKinds(made.N) {
		for made.Kids = append(made.Kids, con(m.con(k))); len(argKinds(made.Kids[len(made.Kids)-1].N)) > 0; {
			made.Kids[len(made.Kids)-1] = con(m.con(k))
		}
	}
	return made
}

func (m *maker) args(fun int, ground bool) []api.Term {
	var list []api.Term
	for _, kind := range m.kinds[fun] {
		list = append(list, m.value(kind, 3, ground))
	}
	return list
}

// someGroups are those of sample.Datas in another order, or any.
func (m *maker) someGroups() [][]int {
	var list [][]int
	if m.wild {
		for _, c := range m.Perm(len(m.Cons)) {
			if n := len(list); n > 0 && m.Intn(3) > 0 {
				list[n-1] = append(list[n-1], c)
			} else {
				list = append(list, []int{c})
			}
		}
		return list
	}
	for _, g := range m.Perm(4) {
		group := groups()[g]
		m.Shuffle(len(group), func(i, j int) { group[i], group[j] = group[j], group[i] })
		list = append(list, group)
	}
	return list
}

// each makes many programs of a function each, and what it counts must be met often enough.
func each(t *testing.T, seed int64, times int, least map[string]int, do func(m *maker, p api.RuleProg, fun int, met map[string]int)) {
	t.Helper()
	t.Parallel()
	m := newMaker(t, seed)
	met := map[string]int{}
	for range times {
		m.again()
		fun := m.Intn(len(m.Funs))
		do(m, m.prog(fun), fun, met)
	}
	t.Log(met)
	for what, n := range least {
		if met[what] < n {
			t.Error("too few:", what, met[what])
		}
	}
}

// P5.2: trees are those of the second version, which follows the definition word by word.
func TestTreeReference(t *testing.T) {
	least := map[string]int{"fail": 200, "leaf": 200, "branch": 2000, "or": 1000, "matching": 500, "sequential": 2000, "overlaps": 2000}
	each(t, 1, 8000, least, func(m *maker, p api.RuleProg, fun int, met map[string]int) {
		d := definitionOf(p, fun)
		want := d.tree(d.rules, cells{})
		got, e := rule.Tree(p, fun)
		sequential, overlaps, f := rule.Kinds(p, fun)
		if countNodes(want) > 80 {
			if e != api.ErrLong || f != api.ErrLong {
				t.Fatal(e, f, p)
			}
			return
		}
		if e != api.OK || f != api.OK || showTree(p.Sig, got) != showTree(p.Sig, want) {
			t.Fatal(e, f, p, showTree(p.Sig, got), "want", showTree(p.Sig, want))
		}
		ors, leaves := 0, 0
		var visit func(n api.RuleNode)
		visit = func(n api.RuleNode) {
			met[[]string{"", "fail", "leaf", "branch", "or"}[n.Op]]++
			if n.Op == api.RuleOr {
				ors++
				if n.Kids[0].Op == api.RuleLeaf {
					met["matching"]++
				}
			}
			if len(n.Rules) > 1 {
				leaves++
			}
			for _, kid := range n.Kids {
				visit(kid)
			}
		}
		visit(want)
		if sequential != (ors == 0) || overlaps != (ors+leaves > 0) {
			t.Fatal(sequential, overlaps, showTree(p.Sig, want))
		}
		if sequential {
			met["sequential"]++
		}
		if overlaps {
			met["overlaps"]++
		}
	})
}

// led returns the rules to which a tree leads arguments.
func led(n api.RuleNode, args []api.Term) []int {
	switch n.Op {
	case api.RuleLeaf:
		return n.Rules
	case api.RuleOr:
		return append(slices.Clone(led(n.Kids[0], args)), led(n.Kids[1], args)...)
	case api.RuleBranch:
		list := args
		var at api.Term
		for _, i := range n.Path {
			at = list[i]
			list = at.Kids
		}
		if i := slices.Index(n.Cons, at.N); at.Op == api.TermCon && i >= 0 {
			return led(n.Kids[i], args)
		}
	}
	return nil
}

// P5.2, P5.3: a tree leads values to just the rules that match them, and with
// what is put in, the patterns are the arguments.
func TestLed(t *testing.T) {
	least := map[string]int{"none": 2000, "one": 1500, "several": 2000, "applied": 5000, "not ground": 5000}
	each(t, 2, 1500, least, func(m *maker, p api.RuleProg, fun int, met map[string]int) {
		d := definitionOf(p, fun)
		top, e := rule.Tree(p, fun)
		if e != api.OK {
			t.Fatal(e, p)
		}
		for n := range 8 {
			args := m.args(fun, n%2 == 0)
			if n%2 > 0 {
				met["not ground"]++
			}
			list, e := rule.Matches(p, fun, args)
			want, others := d.that(d.rules, func(pats cells) bool { return pats.matches(cellsOf(args)) })
			way := slices.Sorted(slices.Values(led(top, args)))
			if e != api.OK || !slices.Equal(list, want) || !slices.Equal(list, way) {
				t.Fatal(e, p, args, list, "want", want, way)
			}
			met[[]string{"none", "one", "several"}[min(len(list), 2)]]++
			for _, n := range others {
				if binds, e := rule.Apply(p, n, args); e != api.ErrNone || len(binds) > 0 {
					t.Fatal(e, binds, p.Rules[n], args)
				}
			}
			for _, n := range want {
				m.checkApplied(t, p, n, args)
				met["applied"]++
			}
		}
	})
}

// checkApplied fails if what Apply returns is no binding list of just the patterns' variables which makes them the arguments.
func (m *maker) checkApplied(t *testing.T, p api.RuleProg, n int, args []api.Term) {
	t.Helper()
	// Variables can come in any order, and some can be free.
	r := p.Rules[n]
	names := m.Perm(api.TermVars)
	var rename func(list []api.Term) []api.Term
	rename = func(list []api.Term) []api.Term {
		var made []api.Term
		for _, x := range list {
			x.Kids = rename(x.Kids)
			if x.Op == api.TermVar {
				x.N = names[x.N]
			}
			made = append(made, x)
		}
		return made
	}
	used := names[:r.Vars]
	r.Pats, r.Vars = rename(r.Pats), api.TermVars
	p.Rules = slices.Clone(p.Rules)
	p.Rules[n] = r
	binds, e := rule.Apply(p, n, args)
	if e != api.OK || len(binds) != len(used) {
		t.Fatal(e, binds, r, args)
	}
	by := map[int]api.Term{}
	for i, b := range binds {
		if i > 0 && binds[i-1].Var >= b.Var || !slices.Contains(used, b.Var) {
			t.Fatal(binds, r)
		}
		by[b.Var] = b.Term
	}
	var put func(list []api.Term) []api.Term
	put = func(list []api.Term) []api.Term {
		var made []api.Term
		for _, x := range list {
			if x.Op == api.TermVar {
				made = append(made, by[x.N])
				continue
			}
			x.Kids = put(x.Kids)
			made = append(made, x)
		}
		return made
	}
	if got := showArgs(p.Sig, put(r.Pats)); got != showArgs(p.Sig, args) {
		t.Fatal(got, showArgs(p.Sig, args))
	}
}

// P5.4: what is missing is what the second version finds; it becomes a rule,
// so that other shapes are missing.
func TestMissingReference(t *testing.T) {
	least := map[string]int{"none": 1000, "missing": 3000, "many looks": 1000}
	each(t, 3, 3000, least, func(m *maker, p api.RuleProg, fun int, met map[string]int) {
		groups := m.someGroups()
		for len(p.Rules) < api.RuleRules {
			d := definitionOf(p, fun)
			looks := 0
			shape, found := d.missing(cells{}, groups, &looks)
			text, vars := d.show(shape)
			want := api.OK
			switch {
			case looks > 300 || vars > 20:
				want, text = api.ErrLong, ""
			case !found:
				want, text = api.ErrNone, ""
			}
			list, e := rule.Missing(p, fun, groups)
			if got := showArgs(p.Sig, list); e != want || got != text {
				t.Fatal(p, groups, e, got, "want", want, text, looks)
			}
			met[map[api.Errno]string{api.OK: "missing", api.ErrNone: "none", api.ErrLong: "long"}[e]]++
			if looks > 10 {
				met["many looks"]++
			}
			if e != api.OK {
				return
			}
			p.Rules = slices.Insert(p.Rules, m.Intn(len(p.Rules)+1), sample.Rule(fun, list...))
		}
	})
}

// special returns a shape with random values in place of its variables.
func (m *maker) special(list []api.Term) []api.Term {
	var made []api.Term
	for _, x := range list {
		x.Kids = m.special(x.Kids)
		if x.Op == api.TermVar {
			x = m.value(m.Intn(4), 2, false)
		}
		made = append(made, x)
	}
	return made
}

// fitting makes arguments that fit groups for a function, or fails.
func (m *maker) fitting(d definition, groups [][]int) ([]api.Term, bool) {
	groupOf := map[int]int{}
	for n, group := range groups {
		for _, c := range group {
			groupOf[c] = n
		}
	}
	ok := true
	var fill func(at string, args, deep int) []api.Term
	fill = func(at string, args, deep int) []api.Term {
		var made []api.Term
		for i := range args {
			here := at + string(rune(i))
			asked := map[int]bool{}
			for _, n := range d.rules {
				if c, has := d.pats[n][here]; has {
					asked[groupOf[c]] = true
				}
			}
			ok = ok && len(asked) < 2 && deep < 9
			c := m.Intn(len(m.Cons))
			for n := range asked {
				c = groups[n][m.Intn(len(groups[n]))]
			}
			if !ok || len(asked) == 0 {
				made = append(made, m.value(m.Intn(4), 1, true))
				continue
			}
			made = append(made, con(c, fill(here, m.Cons[c].Args, deep+1)...))
		}
		return made
	}
	return fill("", m.Funs[d.fun].Args, 0), ok
}

// P5.4: no rule matches a special case of the shape; and if there is none, some rule matches all ground values that fit.
func TestMissingMeaning(t *testing.T) {
	least := map[string]int{"special": 2000, "fitting": 5000}
	each(t, 4, 1500, least, func(m *maker, p api.RuleProg, fun int, met map[string]int) {
		groups := m.someGroups()
		shape, e := rule.Missing(p, fun, groups)
		for range m.Intn(16 - len(p.Rules)) {
			if e == api.OK {
				p.Rules = append(p.Rules, sample.Rule(fun, shape...))
				shape, e = rule.Missing(p, fun, groups)
			}
		}
		for range 10 {
			args, ok := m.special(shape), true
			if e == api.ErrNone {
				args, ok = m.fitting(definitionOf(p, fun), groups)
			}
			if !ok {
				continue
			}
			list, f := rule.Matches(p, fun, args)
			switch {
			case f == api.ErrArg: // too large
			case f != api.OK || (e == api.OK) != (len(list) == 0):
				t.Fatal(p, groups, e, f, shape, args, list)
			case e == api.OK:
				met["special"]++
			default:
				met["fitting"]++
			}
		}
	})
}

// P5.5: with the rules in another order the same ones match, and the same functions are sequential.
func TestOrder(t *testing.T) {
	least := map[string]int{"sequential": 500, "not": 500, "matching": 1000}
	each(t, 5, 2500, least, func(m *maker, p api.RuleProg, fun int, met map[string]int) {
		order := m.Perm(len(p.Rules))
		other := api.RuleProg{Sig: p.Sig}
		for _, n := range order {
			other.Rules = append(other.Rules, p.Rules[n])
		}
		a, _, e := rule.Kinds(p, fun)
		b, _, f := rule.Kinds(other, fun)
		if e != api.OK || f != api.OK || a != b {
			t.Fatal(e, f, a, b, p, order)
		}
		met[map[bool]string{true: "sequential", false: "not"}[a]]++
		for range 4 {
			args := m.args(fun, false)
			list, e := rule.Matches(p, fun, args)
			moved, f := rule.Matches(other, fun, args)
			for i, n := range moved {
				moved[i] = order[n]
			}
			slices.Sort(moved)
			if e != api.OK || f != api.OK || !slices.Equal(list, moved) {
				t.Fatal(e, f, list, moved, p, order)
			}
			met["matching"] += min(len(list), 1)
		}
	})
}
