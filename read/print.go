package read

import (
	"strconv"
	"strings"

	"swingle/api"
)

// isReadable returns whether names are such that a source can have them.
func isReadable(names []string, kind api.ReadKind) bool {
	for _, name := range names {
		if !isToken(name, kind) {
			return false
		}
	}
	return true
}

func dataNames(datas []api.KindData) []string {
	return each(datas, func(d api.KindData) string { return d.Name })
}

func termNames(list []api.TermName) []string {
	return each(list, func(n api.TermName) string { return n.Name })
}

func sigReadable(s api.TermSig) bool {
	return isReadable(termNames(s.Cons), api.ReadGreat) && isReadable(termNames(s.Funs), api.ReadName)
}

// inOrder returns whether all functions have rules, and come in the order in which these begin with them.
func inOrder(p api.RuleProg) bool {
	met := 0
	for _, r := range p.Rules {
		if r.Fun > met {
			return false
		}
		if r.Fun == met {
			met++
		}
	}
	return met == len(p.Sig.Funs)
}

// variables returns the first names of variables, but for those that are taken.
func variables(count int, taken ...string) []string {
	var names []string
	not := map[string]bool{}
	for _, name := range taken {
		not[name] = true
	}
	shorter := []string{""}
search:
	for {
		var longer []string
		for _, begin := range shorter {
			for letter := byte('a'); letter <= 'z'; letter++ {
				if len(names) == count {
					break search
				}
				name := begin + string(letter)
				longer = append(longer, name)
				if !isWord(name) && !not[name] {
					names = append(names, name)
				}
			}
		}
		shorter = longer
	}
	return names
}

// printer has the names of what it prints.
type printer struct {
	datas    []string
	cons     []string
	funs     []string
	typeVars []string
	vars     []string
}

func newPrinter(datas []api.KindData, s api.TermSig) printer {
	funs := termNames(s.Funs)
	return printer{
		datas:    dataNames(datas),
		cons:     termNames(s.Cons),
		funs:     funs,
		typeVars: variables(api.KindVars, "int"),
		vars:     variables(api.TermVars, funs...),
	}
}

// module returns the source of a module, which can be longer than a source is allowed to be.
func (p printer) module(m api.ReadModule) string {
	text := ""
	line := func(parts ...string) {
		text += strings.Join(parts, "") + ";\n"
	}
	con := 2
	for _, d := range m.Datas[1:] {
		var cons []string
		for _, types := range d.Cons {
			cons = append(cons, called(p.cons[con], types, p.kind))
			con++
		}
		head := append([]string{"data", d.Name}, p.typeVars[:d.Params]...)
		line(strings.Join(head, " "), " = ", strings.Join(cons, " | "))
	}
	for _, r := range m.Prog.Rules {
		line(called(p.funs[r.Fun], r.Pats, p.expr), " = ", p.expr(r.Rhs))
	}
	return text
}

// called returns a name with its parts between brackets, if there are any.
func called[T any](name string, parts []T, of func(T) string) string {
	if len(parts) == 0 {
		return name
	}
	return name + "(" + strings.Join(each(parts, of), ", ") + ")"
}

func (p printer) kind(t api.KindType) string {
	switch t.Sort {
	case api.KindVar:
		return p.typeVars[t.N]
	case api.KindInt:
		return "int"
	case api.KindOfData:
		return called(p.datas[t.N], t.Parts, p.kind)
	}
	from := p.kind(t.Parts[0])
	if t.Parts[0].Sort == api.KindFun {
		from = "(" + from + ")"
	}
	return from + " -> " + p.kind(t.Parts[1])
}

func (p printer) expr(t api.Term) string {
	return p.at(levelExpr, t)
}

// at returns an expression where the grammar has one of a level.
func (p printer) at(level int, t api.Term) string {
	text, own := p.bare(t)
	if own < level {
		return "(" + text + ")"
	}
	return text
}

// bare returns an expression without brackets around it, and the level that it is of.
func (p printer) bare(t api.Term) (string, int) {
	switch t.Op {
	case api.TermVar:
		return p.vars[t.N], levelAtom
	case api.TermInt:
		return strings.Replace(strconv.Itoa(t.N), "-", "~", 1), levelAtom
	case api.TermCon:
		return called(p.cons[t.N], t.Kids, p.expr), levelAtom
	case api.TermFun, api.TermPart:
		return called(p.funs[t.N], t.Kids, p.expr), levelAtom
	case api.TermLet:
		return "let " + p.vars[t.N] + " = " + p.expr(t.Kids[0]) + " in " + p.expr(t.Kids[1]), levelExpr
	case api.TermWhen:
		return "when " + p.expr(t.Kids[0]) + " then " + p.expr(t.Kids[1]), levelExpr
	}
	o := operatorOf(t.Op)
	return p.at(o.left, t.Kids[0]) + " " + o.sign + " " + p.at(o.right, t.Kids[1]), o.level
}

// operatorOf returns the operator of what two expressions with a sign between them make.
func operatorOf(op api.TermOp) operator {
	var found operator
	for _, o := range operators {
		if o.op == op {
			found = o
		}
	}
	return found
}
