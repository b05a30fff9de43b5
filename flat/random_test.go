package flat_test

import (
	"math"
	"math/rand"
	"slices"
	"testing"

	"swingle/api"
	"swingle/flat"
	"swingle/rule"
	"swingle/sample"
)

// maker makes random programs, right trees and values.
type maker struct {
	*rand.Rand
	api.TermSig
}

func newMaker(t *testing.T, seed int64) *maker {
	t.Helper()
	m := &maker{Rand: rand.New(rand.NewSource(seed)), TermSig: progOf(t, "f = 1;").Sig}
	m.Funs = nil
	for n, name := range []string{"f", "g", "h", "k", "l"} {
		m.Funs = append(m.Funs, api.TermName{Name: name, Args: n})
	}
	return m
}

// term makes a pattern, or a value: inside is what stands at its ends.
func (m *maker) term(deep int, inside func() api.Term) api.Term {
	if deep == 0 || m.Intn(3) == 0 {
		return inside()
	}
	made := con([]int{0, 1, 2, 2, 3, 3, 3, 4, 5, 5, 6}[m.Intn(11)])
	for range m.Cons[made.N].Args {
		made.Kids = append(made.Kids, m.term(deep-1, inside))
	}
	return made
}

// rule makes a rule whose variables come in any order, and of which some are free.
func (m *maker) rule(fun int) api.RuleRule {
	var pats []api.Term
	for range m.Funs[fun].Args {
		pats = append(pats, m.term(m.Intn(4), func() api.Term { return v(0) }))
	}
	r := sample.Rule(fun, pats...)
	if r.Vars > api.TermVars {
		return m.rule(fun)
	}
	r.Vars = min(r.Vars+m.Intn(3), api.TermVars)
	names := m.Perm(r.Vars)
	var rename func(list []api.Term) []api.Term
	rename = func(list []api.Term) []api.Term {
		var made []api.Term
		for _, x := range list {
			x.Kids = rename(x.Kids)
			if x.Op == api.TermVar {
				x.N = names[x.N]
			}
			made = append(made, x)
		}
		return made
	}
	r.Pats = rename(r.Pats)
	return r
}

// prog makes a program, most of whose rules are those of the function fun.
func (m *maker) prog(fun int) api.RuleProg {
	p := api.RuleProg{Sig: api.TermSig{Cons: slices.Clone(m.Cons), Funs: slices.Clone(m.Funs)}}
	for range m.Intn(9) {
		if m.Intn(5) == 0 {
			p.Rules = append(p.Rules, m.rule(m.Intn(len(m.Funs))))
		}
		p.Rules = append(p.Rules, m.rule(fun))
	}
	return p
}

func (m *maker) value(deep int) api.Term {
	return m.term(deep, func() api.Term {
		switch m.Intn(6) {
		case 0:
			return num(m.Intn(9) - 4)
		case 1:
			return node(api.TermPart, 1+m.Intn(4))
		case 2:
			return v(m.Intn(3))
		}
		return con([]int{0, 1, 2, 2, 4}[m.Intn(5)])
	})
}

// args makes values, most of which have the constructors of some rule.
func (m *maker) args(p api.RuleProg, fun int) []api.Term {
	var pats [][]api.Term
	for _, r := range p.Rules {
		if r.Fun == fun {
			pats = append(pats, r.Pats)
		}
	}
	if len(pats) == 0 || m.Intn(5) == 0 {
		pats = [][]api.Term{parameters(p.Sig.Funs[fun].Args)}
	}
	var fill func(list []api.Term) []api.Term
	fill = func(list []api.Term) []api.Term {
		var made []api.Term
		for _, x := range list {
			if x.Op == api.TermVar || m.Intn(12) == 0 {
				made = append(made, m.value(m.Intn(3)))
				continue
			}
			made = append(made, con(x.N, fill(x.Kids)...))
		}
		return made
	}
	return fill(pats[m.Intn(len(pats))])
}

// conAt returns the constructor that patterns have where a shape has a variable.
func conAt(shape, pats []api.Term, x int) (int, bool) {
	for i, t := range shape {
		if t.Op == api.TermVar {
			if t.N == x && pats[i].Op == api.TermCon {
				return pats[i].N, true
			}
			continue
		}
		if c, ok := conAt(t.Kids, pats[i].Kids, x); ok {
			return c, true
		}
	}
	return 0, false
}

// grow makes a random right tree of some rules, all of which fit the shape.
func (m *maker) grow(d definition, rules []int, shape []api.Term, given int) api.FlatTree {
	common := map[int]bool{} // variables that all rules ask
	for _, x := range variablesOf(shape) {
		common[x] = !slices.ContainsFunc(rules, func(n int) bool {
			_, ok := conAt(shape, d.Rules[n].Pats, x)
			return !ok
		})
	}
	var can []int
	for _, x := range variablesOf(shape) {
		if common[x] {
			can = append(can, x)
		}
	}
	switch {
	case len(rules) == 0 && m.Intn(4) > 0:
		return fail()
	case len(rules) == 1 && len(can) == 0 && m.Intn(4) > 0:
		return is(rules[0], varsOf(d.Rules[rules[0]], shape)...)
	case len(can) > 0 && given < 50 && (len(rules) == 1 || m.Intn(3) > 0):
		return m.cases(d, rules, shape, given, can[m.Intn(len(can))])
	}
	groups := make([][]int, 2+m.Intn(3))
	for _, n := range m.Perm(len(rules)) {
		g := m.Intn(len(groups))
		groups[g] = append(groups[g], rules[n])
	}
	made := or()
	for _, group := range groups {
		made.Kids = append(made.Kids, m.grow(d, group, shape, given))
	}
	return made
}

// cases makes a case of a variable that all of some rules ask.
func (m *maker) cases(d definition, rules []int, shape []api.Term, given, x int) api.FlatTree {
	made := asks(x)
	lucky := m.Intn(len(d.Sig.Cons))
	for c := range d.Sig.Cons {
		var have []int
		for _, n := range rules {
			if has, _ := conAt(shape, d.Rules[n].Pats, x); has == c {
				have = append(have, n)
			}
		}
		if len(have) == 0 && (len(rules) > 0 || c != lucky) && m.Intn(9) > 0 {
			continue
		}
		args := d.Sig.Cons[c].Args
		then := m.grow(d, have, replaced(shape, x, c, args, given), given+args)
		made.Alts = append(made.Alts, alt(c, parameters2(given, args), then))
	}
	return made
}

// made is a random flat program that is right, of whose functions one has most rules.
func (m *maker) made(t *testing.T) (api.FlatProg, int) {
	t.Helper()
	for {
		fun := m.Intn(len(m.Funs))
		p := m.prog(fun)
		f, e := flat.Flat(p)
		if e != api.OK {
			t.Fatal(e, showProg(p))
		}
		if m.Intn(3) == 0 {
			return f, fun
		}
		d := definition{p, fun}
		tree := m.grow(d, rulesOf(f.Trees[fun]), parameters(d.args()), d.args())
		if d.isRight(tree) {
			f.Trees[fun] = tree
			return f, fun
		}
	}
}

// each makes many flat programs, and what it counts must be met often enough.
func each(t *testing.T, seed int64, times int, least map[string]int, do func(m *maker, f api.FlatProg, fun int, met map[string]int)) {
	t.Helper()
	t.Parallel()
	m := newMaker(t, seed)
	met := map[string]int{}
	for range times {
		f, fun := m.made(t)
		do(m, f, fun, met)
	}
	t.Log(met)
	for what, n := range least {
		if met[what] < n {
			t.Error("too few:", what, met[what])
		}
	}
}

// spoil changes something somewhere in a tree.
func (m *maker) spoil(top *api.FlatTree) {
	list := spots(top)
	n := list[m.Intn(len(list))]
	number := []int{0, 0, 1, 2, 3, 4, 5, 6, 7, 8, 9, -1, 60, math.MaxInt, math.MinInt}[m.Intn(15)]
	switch m.Intn(11) {
	case 0:
		n.Op = api.FlatOp(m.Intn(6))
	case 1:
		n.Var = number
	case 2:
		n.Rule = number
	case 3:
		if len(n.Vars) > 0 {
			n.Vars[m.Intn(len(n.Vars))] = number
		}
	case 4:
		if len(n.Vars) > 1 {
			i, j := m.Intn(len(n.Vars)), m.Intn(len(n.Vars))
			n.Vars[i], n.Vars[j] = n.Vars[j], n.Vars[i]
		}
	case 5:
		if len(n.Alts) > 0 {
			a := &n.Alts[m.Intn(len(n.Alts))]
			a.Con = number
			a.Vars = a.Vars[:m.Intn(len(a.Vars)+1)]
		}
	case 6:
		if len(n.Alts) > 0 {
			i := m.Intn(len(n.Alts))
			n.Alts = slices.Delete(n.Alts, i, i+1)
		}
	case 7:
		if len(n.Kids) > 0 {
			i := m.Intn(len(n.Kids))
			n.Kids = slices.Delete(n.Kids, i, i+1)
		}
	case 8:
		*n = again(*list[m.Intn(len(list))])
	case 9:
		m.Shuffle(len(n.Kids), func(i, j int) { n.Kids[i], n.Kids[j] = n.Kids[j], n.Kids[i] })
	case 10:
		other := list[m.Intn(len(list))]
		n.Var, other.Var = other.Var, n.Var
	}
}

// P7.1: the flat programs that are right are those of the second version, which follows the definition word by word.
func TestCheckReference(t *testing.T) {
	least := map[string]int{"right": 3000, "not right": 2000, "right though changed": 100}
	each(t, 1, 1500, least, func(m *maker, f api.FlatProg, fun int, met map[string]int) {
		if e := flat.Check(f); e != api.OK {
			t.Fatal(e, showFlat(f))
		}
		met["right"]++
		before := showTree(f.Trees[fun])
		for range 4 {
			tree := again(f.Trees[fun])
			m.spoil(&tree)
			other := api.FlatProg{Prog: f.Prog, Trees: slices.Clone(f.Trees)}
			other.Trees[fun] = tree
			right := definition{f.Prog, fun}.isRight(tree)
			if e := flat.Check(other); (e == api.OK) != right || e != api.OK && e != api.ErrArg {
				t.Fatal(e, right, showFlat(other))
			}
			met[map[bool]string{true: "right", false: "not right"}[right]]++
			if right && showTree(tree) != before {
				met["right though changed"]++
			}
		}
	})
}

// P7.2: flat trees are those of the second version.
func TestFlatReference(t *testing.T) {
	least := map[string]int{"": 10000}
	each(t, 2, 1200, least, func(m *maker, f api.FlatProg, fun int, met map[string]int) {
		made, e := flat.Flat(f.Prog)
		if e != api.OK || len(made.Trees) != len(f.Trees) || showProg(made.Prog) != showProg(f.Prog) {
			t.Fatal(e, showFlat(made))
		}
		for fun, tree := range made.Trees {
			d := definition{f.Prog, fun}
			top, e := rule.Tree(f.Prog, fun)
			want := d.flat(top, parameters(d.args()), d.args())
			if e != api.OK || showTree(tree) != showTree(want) || !d.isRight(tree) {
				t.Fatal(e, showTree(tree), "want", showTree(want))
			}
			met[""] += countNodes(tree)
		}
	})
}

// large makes a rule with large patterns of the constructors Q and S of sample.Wide.
func (m *maker) large(fun, args int) api.RuleRule {
	rich := 0
	var grow func(deep int) api.Term
	grow = func(deep int) api.Term {
		if rich <= 0 || deep == 0 || m.Intn(6) == 0 {
			if m.Intn(9) == 0 {
				return v(0)
			}
			return con(2)
		}
		made := con(3 + m.Intn(4)/3)
		rich--
		for range map[int]int{3: 4, 4: 1}[made.N] {
			made.Kids = append(made.Kids, grow(deep-1))
		}
		return made
	}
	var pats []api.Term
	for range args {
		rich = 2 + m.Intn(6)
		pats = append(pats, grow(5))
	}
	return sample.Rule(fun, pats...)
}

// P7.2: trees that are too large are those of the second version.
func TestLargeReference(t *testing.T) {
	m := newMaker(t, 3)
	met := map[string]int{}
	for range 1200 {
		p := sample.Wide()
		for range 1 + m.Intn(2) {
			p.Rules = append(p.Rules, m.large(0, 4))
		}
		if rule.Check(p) != api.OK {
			continue
		}
		f, e := flat.Flat(p)
		top, why := rule.Tree(p, 0)
		if why != api.OK {
			if e != api.ErrLong || showFlat(f) != "" {
				t.Fatal(e, showFlat(f))
			}
			met["tree"]++
			continue
		}
		d := definition{p, 0}
		want := d.flat(top, parameters(4), 4)
		if largest(want) >= api.FlatVars {
			if e != api.ErrLong || showFlat(f) != "" {
				t.Fatal(e, showFlat(f))
			}
			met["numbers"]++
			continue
		}
		if e != api.OK || showTree(f.Trees[0]) != showTree(want) {
			t.Fatal(e, showFlat(f))
		}
		met["fine"]++
	}
	t.Log(met)
	if met["tree"] < 20 || met["numbers"] < 50 || met["fine"] < 500 {
		t.Error(met)
	}
}

// P7.3: a right tree comes to just the rules that match values, each once, and
// in the order of the second version, which asks the same parameters.
func TestFollowReference(t *testing.T) {
	least := map[string]int{"0": 1000, "1": 1000, "2": 1000, "asked 0": 1000, "asked 1": 1000, "asked 2": 1000, "asked 3": 500}
	each(t, 4, 1500, least, func(m *maker, f api.FlatProg, fun int, met map[string]int) {
		usual, e := flat.Flat(f.Prog)
		if e != api.OK {
			t.Fatal(e)
		}
		for range 6 {
			args := m.args(f.Prog, fun)
			values := map[int]api.Term{}
			for i, x := range args {
				values[i] = x
			}
			wantRules, all := follow(f.Trees[fun], values)
			var wantAsked []int
			for p := range args {
				if slices.Contains(all, p) {
					wantAsked = append(wantAsked, p)
				}
			}
			rules, asked, e := flat.Follow(f, fun, args)
			matching, why := rule.Matches(f.Prog, fun, args)
			if why == api.ErrArg && e == api.ErrArg {
				continue // too large
			}
			if e != api.OK || !slices.Equal(rules, wantRules) || !slices.Equal(asked, wantAsked) {
				t.Fatal(e, rules, asked, "want", wantRules, wantAsked, showTree(f.Trees[fun]), showTerms(args))
			}
			slices.Sort(rules)
			others, _, e := flat.Follow(usual, fun, args)
			slices.Sort(others)
			if e != api.OK || !slices.Equal(rules, matching) || !slices.Equal(others, matching) {
				t.Fatal(e, rules, others, "want", matching, showTree(f.Trees[fun]), showTerms(args))
			}
			met[[]string{"0", "1", "2"}[min(len(rules), 2)]]++
			met["asked "+showNumbers([]int{len(asked)})]++
		}
	})
}

// P7.4: what is needed is what the second version finds; with a variable as
// such an argument the tree comes to no rule.
func TestNeedsReference(t *testing.T) {
	least := map[string]int{"needed": 500, "not needed": 1000, "came": 1000}
	each(t, 5, 1500, least, func(m *maker, f api.FlatProg, fun int, met map[string]int) {
		params := f.Prog.Sig.Funs[fun].Args
		list, e := flat.Needs(f, fun)
		if want := needs(f.Trees[fun], params); e != api.OK || !slices.Equal(list, want) {
			t.Fatal(e, list, "want", want, showTree(f.Trees[fun]))
		}
		args := m.args(f.Prog, fun)
		for p := range params {
			asks := slices.Clone(args)
			asks[p] = v(m.Intn(20))
			rules, _, e := flat.Follow(f, fun, asks)
			if e == api.ErrArg {
				continue // too large
			}
			needed := slices.Contains(list, p)
			if e != api.OK || needed && len(rules) > 0 {
				t.Fatal(e, rules, list, p, showTree(f.Trees[fun]), showTerms(asks))
			}
			met[map[bool]string{true: "needed", false: "not needed"}[needed]]++
			if len(rules) > 0 {
				met["came"]++
			}
		}
	})
}

// P7.5: joined trees are those of the second version, are right, and come to
// the same rules in the same order.
func TestJoinReference(t *testing.T) {
	least := map[string]int{"changed": 500, "long": 50, "same": 300, "came": 500}
	each(t, 6, 1500, least, func(m *maker, f api.FlatProg, fun int, met map[string]int) {
		if m.Intn(4) == 0 && countNodes(f.Trees[fun]) < 50 && f.Prog.Sig.Funs[fun].Args > 0 {
			f.Trees[fun] = or(or(idle(0, m.Intn(7)+2)...), f.Trees[fun], or(idle(0, m.Intn(9)+2)...))
		}
		before := showTree(f.Trees[fun])
		want, most := join(f.Trees[fun])
		made, e := flat.Join(f, fun)
		if most > api.FlatKids {
			if e != api.ErrLong || showFlat(made) != "" {
				t.Fatal(e, showFlat(made))
			}
			met["long"]++
			return
		}
		if e != api.OK || flat.Check(made) != api.OK || showTree(made.Trees[fun]) != showTree(want) {
			t.Fatal(e, showFlat(made), "want", showTree(want))
		}
		met[map[bool]string{true: "same", false: "changed"}[before == showTree(want)]]++
		args := m.args(f.Prog, fun)
		rules, asked, e := flat.Follow(f, fun, args)
		others, less, why := flat.Follow(made, fun, args)
		if e != why || !slices.Equal(rules, others) || !slices.Equal(asked, less) {
			t.Fatal(e, why, rules, others, asked, less, before)
		}
		met["came"] += min(len(rules), 1)
	})
}
