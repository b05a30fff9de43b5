package class_test

import (
	"slices"
	"strconv"
	"strings"
	"testing"

	"swingle/api"
	"swingle/build"
	"swingle/read"
)

// more are the data types of most tests.
const more = `data List a = Nil | Cons(a, List(a));
data Pair a b = Pair(a, b);
data Nat = Z | S(Nat);
data Ph a = Ph;
data Tri a b c = Tri(a, b, c);
`

func mustModule(t *testing.T, source string) api.ReadModule {
	t.Helper()
	m, e := read.Module(source)
	if e != api.OK {
		t.Fatal(e, source)
	}
	return m
}

func mustGoal(t *testing.T, m api.ReadModule, source string) api.Term {
	t.Helper()
	g, _, e := read.Goal(m.Prog, source)
	if e != api.OK {
		t.Fatal(e, source)
	}
	return g
}

// Short names.
var (
	node     = build.Node
	num      = build.Num
	typeVar  = build.TypeVar
	integers = build.Integers
	arrow    = build.Arrow
	ofData   = build.OfData
)

func pred(class int, t api.KindType) api.ClassPred { return api.ClassPred{Class: class, Type: t} }

func given(n int) api.ClassDict { return api.ClassDict{Op: api.ClassGiven, N: n} }

func up(from int, kid api.ClassDict) api.ClassDict {
	return api.ClassDict{Op: api.ClassUp, N: from, Kids: []api.ClassDict{kid}}
}

func by(inst int, kids ...api.ClassDict) api.ClassDict {
	return api.ClassDict{Op: api.ClassBy, N: inst, Kids: kids}
}

// reader reads what tests write as texts; blanks are gone.
type reader struct {
	datas []api.KindData
	text  string
}

func readerOf(datas []api.KindData, text string) *reader {
	return &reader{datas, strings.ReplaceAll(text, " ", "")}
}

func (r *reader) takes(text string) bool {
	rest, ok := strings.CutPrefix(r.text, text)
	r.text = rest
	return ok
}

func (r *reader) must(text string) {
	if !r.takes(text) {
		panic("no " + text + " before " + r.text)
	}
}

// while takes the letters that are some of these.
func (r *reader) while(letters string) string {
	word := r.text[:len(r.text)-len(strings.TrimLeft(r.text, letters))]
	r.text = r.text[len(word):]
	return word
}

func (r *reader) number() int {
	n, e := strconv.Atoi(r.while("0123456789"))
	if e != nil {
		panic("no number before " + r.text)
	}
	return n
}

func (r *reader) kind() api.KindType {
	from := r.kindPart()
	if r.takes("->") {
		return arrow(from, r.kind())
	}
	return from
}

func (r *reader) kindPart() api.KindType {
	if r.takes("(") {
		inside := r.kind()
		r.must(")")
		return inside
	}
	if r.takes("?") {
		return typeVar(r.number())
	}
	name := r.while("abcdefghijklmnopqrstuvwxyzABCDEFGHIJKLMNOPQRSTUVWXYZ")
	if name == "int" {
		return integers()
	}
	made := ofData(-1)
	for n, d := range r.datas {
		if d.Name == name {
			made.N = n
		}
	}
	if made.N < 0 {
		panic("no data type: " + name)
	}
	if r.takes("(") {
		made.Parts = []api.KindType{r.kind()}
		for r.takes(",") {
			next := r.kind()
			made.Parts = append(made.Parts, next)
		}
		r.must(")")
	}
	return made
}

func (r *reader) proof() api.ClassDict {
	switch {
	case r.takes("g("):
		made := given(r.number())
		r.must(")")
		return made
	case r.takes("up("):
		n := r.number()
		r.must(",")
		made := up(n, r.proof())
		r.must(")")
		return made
	}
	made := by(r.number())
	if r.takes("(") {
		made.Kids = []api.ClassDict{r.proof()}
		for r.takes(",") {
			next := r.proof()
			made.Kids = append(made.Kids, next)
		}
		r.must(")")
	}
	return made
}

func typeOf(datas []api.KindData, text string) api.KindType {
	r := readerOf(datas, text)
	made := r.kind()
	r.end()
	return made
}

// end panics if there is more.
func (r *reader) end() {
	if r.text != "" {
		panic("more: " + r.text)
	}
}

// predsOf reads predicates: 0 List(?0); 1 int.
func predsOf(datas []api.KindData, text string) []api.ClassPred {
	if text == "" {
		return nil
	}
	return each(strings.Split(text, ";"), func(s string) api.ClassPred {
		r := readerOf(datas, s)
		n := r.number()
		made := pred(n, r.kind())
		r.end()
		return made
	})
}

// proofOf reads a proof as the chapter writes it: 2(up(1, g(0))).
func proofOf(text string) api.ClassDict {
	r := readerOf(nil, text)
	made := r.proof()
	r.end()
	return made
}

// worldOf reads a world: for each class those above it, and instances: 0 List(?0): 0 ?0; 1 ?0.
func worldOf(datas []api.KindData, above [][]int, insts ...string) api.ClassWorld {
	w := api.ClassWorld{Datas: datas, Above: above}
	for _, text := range insts {
		text, needs, _ := strings.Cut(text, ":")
		top := predsOf(datas, text)[0]
		w.Insts = append(w.Insts, api.ClassInst{Class: top.Class, Sort: top.Type.Sort, N: top.Type.N, Needs: predsOf(datas, strings.TrimSpace(needs))})
	}
	return w
}

// show writes a type as the chapter does, such that different types are different texts.
func show(datas []api.KindData, t api.KindType) string {
	parts := each(t.Parts, func(p api.KindType) string { return show(datas, p) })
	inside := "(" + strings.Join(parts, ", ") + ")"
	switch {
	case t.Sort == api.KindVar && len(parts) == 0:
		return "?" + strconv.Itoa(t.N)
	case t.Sort == api.KindInt && t.N == 0 && len(parts) == 0:
		return "int"
	case t.Sort == api.KindFun && t.N == 0 && len(parts) == 2:
		return "(" + parts[0] + " -> " + parts[1] + ")"
	case t.Sort == api.KindOfData && 0 <= t.N && t.N < len(datas) && len(parts) == 0:
		return datas[t.N].Name
	case t.Sort == api.KindOfData && 0 <= t.N && t.N < len(datas):
		return datas[t.N].Name + inside
	}
	return "sort" + strconv.Itoa(int(t.Sort)) + "." + strconv.Itoa(t.N) + inside
}

func showPred(datas []api.KindData, p api.ClassPred) string {
	return strconv.Itoa(p.Class) + " " + show(datas, p.Type)
}

func showPreds(datas []api.KindData, list []api.ClassPred) string {
	return strings.Join(each(list, func(p api.ClassPred) string { return showPred(datas, p) }), "; ")
}

// showProof writes a proof as the chapter does; what is no proof at all is written, too.
func showProof(d api.ClassDict) string {
	kids := strings.Join(each(d.Kids, showProof), ", ")
	n := strconv.Itoa(d.N)
	switch {
	case d.Op == api.ClassGiven && len(d.Kids) == 0:
		return "g(" + n + ")"
	case d.Op == api.ClassUp && len(d.Kids) == 1:
		return "up(" + n + ", " + kids + ")"
	case d.Op == api.ClassBy && len(d.Kids) == 0:
		return n
	case d.Op == api.ClassBy:
		return n + "(" + kids + ")"
	}
	return "op" + strconv.Itoa(int(d.Op)) + "." + n + "(" + kids + ")"
}

// showPlaces writes places: 0: 3, g(0); 2: 1.
func showPlaces(list []api.ClassPlace) string {
	return strings.Join(each(list, func(p api.ClassPlace) string {
		return strconv.Itoa(p.Node) + ": " + strings.Join(each(p.Dicts, showProof), ", ")
	}), "; ")
}

func showWorld(w api.ClassWorld) string {
	text := ""
	for c, above := range w.Above {
		text += strconv.Itoa(c) + " <" + strings.Join(each(above, strconv.Itoa), " ") + "; "
	}
	for n, i := range w.Insts {
		text += "\n" + strconv.Itoa(n) + ": " + strconv.Itoa(i.Class) + " sort" + strconv.Itoa(int(i.Sort)) + "." + strconv.Itoa(i.N) + " if " + showPreds(w.Datas, i.Needs)
	}
	for _, d := range w.Datas {
		text += "\n" + d.Name + "/" + strconv.Itoa(d.Params)
		for _, args := range d.Cons {
			text += " | " + strings.Join(each(args, func(t api.KindType) string { return show(w.Datas, t) }), ", ")
		}
	}
	return text
}

func showFuns(datas []api.KindData, list []api.ClassFun) string {
	return strings.Join(each(list, func(f api.ClassFun) string {
		return strconv.Itoa(f.Fun) + " needs " + showPreds(datas, f.Needs)
	}), "; ")
}

// showTerm writes an expression such that different ones are different texts.
func showTerm(t api.Term) string {
	return strconv.Itoa(int(t.Op)) + "." + strconv.Itoa(t.N) + "(" + strings.Join(each(t.Kids, showTerm), " ") + ")"
}

func each[A, B any](list []A, of func(A) B) []B {
	var made []B
	for _, x := range list {
		made = append(made, of(x))
	}
	return made
}

func sameType(a, b api.KindType) bool {
	return a.Sort == b.Sort && a.N == b.N && slices.EqualFunc(a.Parts, b.Parts, sameType)
}

func countNodes(t api.KindType) int {
	n := 1
	for _, p := range t.Parts {
		n += countNodes(p)
	}
	return n
}

func countSteps(d api.ClassDict) int {
	n := 1
	for _, k := range d.Kids {
		n += countSteps(k)
	}
	return n
}
