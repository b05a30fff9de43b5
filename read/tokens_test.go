package read_test

import (
	"math/rand"
	"regexp"
	"slices"
	"strings"
	"testing"

	"swingle/api"
	"swingle/read"
)

// P2.1: the chapter's examples, and each kind of tokens at its limits. A Stop of -1 is ErrNone.
func TestTokens(t *testing.T) {
	for _, x := range []struct {
		source string
		want   string
		stop   int
	}{
		{"a=:=b==c#d", "a =:= b == c", -1},
		{"x->y-1", "x -> y - 1", -1},
		{"~5 07", "", 3},
		{"a b%", "", 3},
		{"~0", "", 0},
		{"abcdefghi", "", 0},
		{"a b", "a b", -1},
		{"", "", -1},
		{" \n \n", "", -1},
		{"#", "", -1},
		{"# % ~0 \t", "", -1},
		{"#\n%", "", 2},
		{"# a # b\nc # d", "c", -1},
		{"a#b\n#c\n d", "a d", -1},
		{"abcdefgh ijklmnop", "abcdefgh ijklmnop", -1},
		{"x abcdefghi", "", 2},
		{"xAbcdefgh", "x Abcdefgh", -1},
		{"xAbcdefghi", "", 1},
		{"AZz", "A Zz", -1},
		{"ABcdefghij", "", 1},
		{"data let in when then", "data let in when then", -1},
		{"datal lets inn whenthen Data thE n", "datal lets inn whenthen Data th E n", -1},
		{"0 1 9 10 1234567", "0 1 9 10 1234567", -1},
		{"12345678", "", 0},
		{"00", "", 0},
		{"01", "", 0},
		{"~1 ~1234567", "~1 ~1234567", -1},
		{"~12345678", "", 0},
		{"1~2~3", "1 ~2 ~3", -1},
		{"~01", "", 0},
		{"~00", "", 0},
		{"~", "", 0},
		{"~ 1", "", 0},
		{"~a", "", 0},
		{"~~1", "", 0},
		{"-1-~1", "- 1 - ~1", -1},
		{"1a2B3", "1 a 2 B 3", -1},
		{"a1", "a 1", -1},
		{";=|(),->=:===<+-?&@", "; = | ( ) , -> =:= == < + - ? & @", -1},
		{"===", "== =", -1},
		{"====", "== ==", -1},
		{"=:==:=", "=:= =:=", -1},
		{"=:", "", 1},
		{"=: =", "", 1},
		{"==:=", "", 2},
		{"==:", "", 2},
		{"-->", "- ->", -1},
		{"->>", "", 2},
		{">", "", 0},
		{":", "", 0},
		{"a\tb", "", 1},
		{"a\rb", "", 1},
		{"a\x00", "", 1},
		{"é", "", 0},
		{"aé", "", 1},
		{"a\xff", "", 1},
		{"a_b", "", 1},
		{"a`", "", 1},
		{"a{", "", 1},
		{"[", "", 0},
		{"/", "", 0},
		{"A@B", "A @ B", -1},
	} {
		want := strings.Fields(x.want)
		list, e := read.Tokens(x.source)
		stop, f := read.Stop(x.source)
		if x.stop < 0 {
			if e != api.OK || f != api.ErrNone || stop != 0 {
				t.Errorf("%q: %v %v %v", x.source, e, stop, f)
			}
		} else if e != api.ErrText || f != api.OK || stop != x.stop {
			t.Errorf("%q: %v %v %v", x.source, e, stop, f)
		}
		sameTexts(t, x.source, texts(list), want)
	}
}

// P2.1: kinds, places and lines.
func TestTokenParts(t *testing.T) {
	source := "\n# é\nlet x =\n\n ~12 #\n Ab@data"
	want := []api.ReadToken{
		{Kind: api.ReadWord, Text: "let", At: 6, Line: 3},
		{Kind: api.ReadName, Text: "x", At: 10, Line: 3},
		{Kind: api.ReadSign, Text: "=", At: 12, Line: 3},
		{Kind: api.ReadInt, Text: "~12", At: 16, Line: 5},
		{Kind: api.ReadGreat, Text: "Ab", At: 23, Line: 6},
		{Kind: api.ReadSign, Text: "@", At: 25, Line: 6},
		{Kind: api.ReadWord, Text: "data", At: 26, Line: 6},
	}
	list, e := read.Tokens(source)
	if e != api.OK || !slices.Equal(list, want) {
		t.Error(list, e)
	}
	if list, e := read.Tokens("a"); e != api.OK || list[0].Line != 1 || list[0].At != 0 {
		t.Error(list, e)
	}
}

// P2.1: ErrLong comes before everything else.
func TestTokensLong(t *testing.T) {
	for _, x := range []struct {
		source string
		e, f   api.Errno
		stop   int
	}{
		{strings.Repeat("a ", api.ReadLong/2), api.OK, api.ErrNone, 0},
		{strings.Repeat(" ", api.ReadLong), api.OK, api.ErrNone, 0},
		{strings.Repeat(" ", api.ReadLong-1) + "%", api.ErrText, api.OK, api.ReadLong - 1},
		{strings.Repeat(" ", api.ReadLong) + "a", api.ErrLong, api.ErrLong, 0},
		{strings.Repeat("#", api.ReadLong+1), api.ErrLong, api.ErrLong, 0},
		{strings.Repeat("%", api.ReadLong+1), api.ErrLong, api.ErrLong, 0},
	} {
		list, e := read.Tokens(x.source)
		stop, f := read.Stop(x.source)
		if e != x.e || f != x.f || stop != x.stop || e != api.OK && list != nil {
			t.Error(len(x.source), len(list), e, stop, f)
		}
	}
}

// expressions are another way to say what blanks and tokens are: what begins
// with such letters, or digits, as far as they go, and then what of it is one.
var (
	blank = regexp.MustCompile(`^(?: |\n|#[^\n]*)+`)
	piece = regexp.MustCompile(`^(?:[a-z]+|[A-Z][a-z]*|~?[0-9]+|=:=|==|->|[;=|(),<+\-?&@])`)
	token = regexp.MustCompile(`^(?:[a-z]{1,8}|[A-Z][a-z]{0,7}|0|~?[1-9][0-9]{0,6}|[^a-zA-Z0-9~].*)$`)
)

func tokensByExpressions(source string) ([]api.ReadToken, int) {
	var list []api.ReadToken
	at := 0
	for {
		at += len(blank.FindString(source[at:]))
		if at == len(source) {
			return list, -1
		}
		text := piece.FindString(source[at:])
		if !token.MatchString(text) {
			return nil, at
		}
		kind := api.ReadSign
		switch c := text[0]; {
		case slices.Contains([]string{"data", "let", "in", "when", "then"}, text):
			kind = api.ReadWord
		case c >= 'a' && c <= 'z':
			kind = api.ReadName
		case c >= 'A' && c <= 'Z':
			kind = api.ReadGreat
		case c == '~' || c >= '0' && c <= '9':
			kind = api.ReadInt
		}
		list = append(list, api.ReadToken{Kind: kind, Text: text, At: at, Line: strings.Count(source[:at], "\n") + 1})
		at += len(text)
	}
}

// P2.1: random sources.
func TestRandomTokens(t *testing.T) {
	r := rand.New(rand.NewSource(1))
	some := []string{" ", "\n", "#", "a", "z", "let", "in", "data", "then", "when", "A", "Z", "0", "9", "~", "12", "=", ":", "-", ">", "<", ";", "|", "(", ")", ",", "+", "?", "&", "@", "aaaa", "bbb", "444", "%", "\t", "\xc3\xa9", "=:=", "~7"}
	stops := 0
	for range 30000 {
		source := ""
		for range r.Intn(12) {
			n := len(some)
			if r.Intn(2) == 0 {
				n -= 5
			}
			source += some[r.Intn(n)]
		}
		want, place := tokensByExpressions(source)
		list, e := read.Tokens(source)
		stop, f := read.Stop(source)
		if !slices.Equal(list, want) || place < 0 && (e != api.OK || f != api.ErrNone || stop != 0) || place >= 0 && (e != api.ErrText || f != api.OK || stop != place) {
			t.Fatalf("%q: %v %v %v %v, want %v %v", source, list, e, stop, f, want, place)
		}
		if place >= 0 {
			stops++
		}
	}
	if stops < 1000 || stops > 29000 {
		t.Error("the sources are no good mixture:", stops)
	}
}
