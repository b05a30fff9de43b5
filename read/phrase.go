package read

import "swingle/api"

// The levels of expressions: what stands at a level can stand, without
// brackets, wherever there can be something of that level, or of one before it.
const (
	levelExpr = iota
	levelOr
	levelBoth
	levelTest
	levelSum
	levelCall
	levelAtom
	levels
)

// operator is a sign between two expressions: what they make, of which level
// that is, and of which level they are.
type operator struct {
	sign        string
	op          api.TermOp
	level       int
	left, right int
}

var operators = [...]operator{
	{"?", api.TermOr, levelOr, levelBoth, levelOr},
	{"&", api.TermBoth, levelBoth, levelTest, levelBoth},
	{"=:=", api.TermUnify, levelTest, levelSum, levelSum},
	{"==", api.TermSame, levelTest, levelSum, levelSum},
	{"<", api.TermLess, levelTest, levelSum, levelSum},
	{"+", api.TermAdd, levelSum, levelSum, levelCall},
	{"-", api.TermSub, levelSum, levelSum, levelCall},
	{"@", api.TermApply, levelCall, levelCall, levelAtom},
}

// phrase is an expression, or a pattern, as it stands in a source: a name is a
// TermVar, also with terms, or if it is a function's.
type phrase struct {
	op   api.TermOp
	text string // the name, also a let's one, or the integer
	kids []phrase
}

// typePhrase is a type as it stands in a source: int is a KindVar, too.
type typePhrase struct {
	sort  api.KindSort
	name  string
	parts []typePhrase
}

// conPhrase is a constructor with its arguments' types.
type conPhrase struct {
	name  string
	types []typePhrase
}

type dataPhrase struct {
	name   string
	params []string
	cons   []conPhrase
}

type rulePhrase struct {
	fun  string
	pats []phrase
	rhs  phrase
	spot api.ReadSpot
}

type modulePhrase struct {
	datas []dataPhrase
	rules []rulePhrase
}
