package read_test

import (
	"math/rand"
	"slices"
	"strings"
	"testing"

	"swingle/api"
	"swingle/read"
)

// grammarTable is the chapter's table, with great letters for what it has a line for.
const grammarTable = `
MODULE { DATA / RULE }
DATA data Great { name } = CON { | CON } ;
CON Great [ ( TYPE { , TYPE } ) ]
TYPE PART [ -> TYPE ]
PART name / Great [ ( TYPE { , TYPE } ) ] / ( TYPE )
RULE name [ ( PAT { , PAT } ) ] = EXPR ;
PAT name / Great [ ( PAT { , PAT } ) ]
EXPR let name = EXPR in EXPR / when EXPR then EXPR / OR
OR BOTH [ ? OR ]
BOTH TEST [ & BOTH ]
TEST SUM [ =:= SUM / == SUM / < SUM ]
SUM CALL { + CALL / - CALL }
CALL ATOM { @ ATOM }
ATOM int / name [ ( EXPR { , EXPR } ) ] / Great [ ( EXPR { , EXPR } ) ] / ( EXPR )
`

// part is a word of a line (text), or what is between [ ] or { } there (ways).
type part struct {
	text  string
	ways  [][]part
	again bool
}

// grammar has the ways of each line.
type grammar map[string][][]part

func readGrammar() grammar {
	g := grammar{}
	for line := range strings.Lines(strings.TrimSpace(grammarTable)) {
		words := strings.Fields(line)
		g[words[0]], _ = readWays(words[1:])
	}
	return g
}

// readWays reads up to the end, or to what closes, and returns what is behind it.
func readWays(words []string) ([][]part, []string) {
	ways := [][]part{nil}
	for len(words) > 0 {
		word := words[0]
		words = words[1:]
		last := len(ways) - 1
		switch word {
		case "]", "}":
			return ways, words
		case "/":
			ways = append(ways, nil)
		case "[", "{":
			var inside [][]part
			inside, words = readWays(words)
			ways[last] = append(ways[last], part{ways: inside, again: word == "{"})
		default:
			ways[last] = append(ways[last], part{text: word})
		}
	}
	return ways, nil
}

// walk looks for the places at which what begins somewhere can end.
type walk struct {
	grammar
	tokens []api.ReadToken
	known  map[string][]int
}

func (w walk) line(name string, from int) []int {
	key := name + string(rune(from))
	if _, ok := w.known[key]; !ok {
		w.known[key] = w.anyWay(w.grammar[name], from)
	}
	return w.known[key]
}

func (w walk) anyWay(ways [][]part, from int) []int {
	var ends []int
	for _, way := range ways {
		now := []int{from}
		for _, p := range way {
			var next []int
			for _, at := range now {
				next = append(next, w.part(p, at)...)
			}
			now = next
		}
		ends = append(ends, now...)
	}
	slices.Sort(ends)
	return slices.Compact(ends)
}

func (w walk) part(p part, from int) []int {
	switch {
	case p.ways == nil && w.grammar[p.text] != nil:
		return w.line(p.text, from)
	case p.ways == nil && from < len(w.tokens) && matches(p.text, w.tokens[from]):
		return []int{from + 1}
	case p.ways == nil:
		return nil
	}
	ends := []int{from}
	for _, end := range w.anyWay(p.ways, from) {
		ends = append(ends, end)
		if p.again {
			ends = append(ends, w.part(p, end)...)
		}
	}
	return ends
}

func matches(text string, t api.ReadToken) bool {
	switch text {
	case "name":
		return t.Kind == api.ReadName
	case "Great":
		return t.Kind == api.ReadGreat
	case "int":
		return t.Kind == api.ReadInt
	}
	return t.Text == text
}

// derived writes something that can be derived from a line; it gets shorter the deeper it is.
func (g grammar) derived(r *rand.Rand, name string, deep int) []string {
	var text []string
	ways := g[name]
	way := ways[r.Intn(len(ways))]
	if deep <= 0 {
		way = ways[0]
		if name == "EXPR" {
			way = ways[2]
		}
	}
	var write func(way []part)
	write = func(way []part) {
		for _, p := range way {
			for range 3 {
				if p.ways == nil || deep <= 0 || r.Intn(3) > 0 {
					break
				}
				write(p.ways[r.Intn(len(p.ways))])
				if !p.again {
					break
				}
			}
			switch {
			case p.ways != nil:
			case g[p.text] != nil:
				text = append(text, g.derived(r, p.text, deep-1)...)
			default:
				text = append(text, p.text)
			}
		}
	}
	write(way)
	return text
}

// token writes one of the tokens that a word of the grammar stands for.
func oneOf(r *rand.Rand, word string) string {
	switch word {
	case "name":
		return []string{"x", "y", "int", "f", "coin"}[r.Intn(5)]
	case "Great":
		return []string{"List", "True", "Cons", "Abc"}[r.Intn(4)]
	case "int":
		return []string{"0", "~7", "12"}[r.Intn(3)]
	}
	return word
}

// spoilt changes a token or two.
func spoilt(r *rand.Rand, text []string) []string {
	words := []string{"name", "Great", "int", "data", "let", "in", "when", "then", ";", "=", "|", "(", ")", ",", "->", "=:=", "==", "<", "+", "-", "?", "&", "@"}
	text = slices.Clone(text)
	for range r.Intn(3) {
		at := r.Intn(len(text) + 1)
		word := words[r.Intn(len(words))]
		switch pick := r.Intn(4); {
		case pick == 0 || at == len(text):
			text = slices.Insert(text, at, word)
		case pick == 1:
			text[at] = word
		case pick == 2:
			text = slices.Delete(text, at, at+1)
		default:
			other := r.Intn(len(text))
			text[at], text[other] = text[other], text[at]
		}
	}
	return text
}

// P2.2: ErrText comes just for what can't be derived from the chapter's grammar.
func TestGrammar(t *testing.T) {
	r := rand.New(rand.NewSource(2))
	g := readGrammar()
	m := listsModule(t)
	counts := map[string]int{}
	for i := range 6000 {
		line := []string{"MODULE", "EXPR", "TYPE", "RULE", "DATA", "EXPR"}[i%6]
		text := spoilt(r, g.derived(r, line, r.Intn(12)))
		if line == "RULE" || line == "DATA" {
			line = "MODULE"
		}
		for i, word := range text {
			text[i] = oneOf(r, word)
		}
		source := strings.Join(text, " ")
		if len(source) > api.ReadLong {
			continue
		}
		list, e := read.Tokens(source)
		if e != api.OK || len(list) != len(text) {
			t.Fatal(source, list, e)
		}
		w := walk{g, list, map[string][]int{}}
		is := slices.Contains(w.line(line, 0), len(list))
		switch line {
		case "MODULE":
			_, e = read.Module(source)
		case "EXPR":
			_, _, e = read.Goal(m.Prog, source)
		case "TYPE":
			_, e = read.Type(m.Datas, source)
		}
		if (e != api.ErrText) != is {
			t.Fatalf("%v %q: got %v, want %v", line, source, e, is)
		}
		if is {
			counts[line]++
		} else {
			counts["not "+line]++
		}
	}
	for _, line := range []string{"MODULE", "EXPR", "TYPE"} {
		if counts[line] < 250 || counts["not "+line] < 250 {
			t.Error("the sources are no good mixture:", counts)
		}
	}
}
