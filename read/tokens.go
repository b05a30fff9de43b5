package read

import (
	"iter"
	"strings"

	"swingle/api"
)

const (
	noToken    api.ReadKind = 0 // the kind of what stands where there is no token
	digitsMost              = 7 // digits of an integer
)

// signs are in the order in which they are tried: a longer one before what it begins with.
var signs = [...]string{"=:=", "==", "->", ";", "=", "|", "(", ")", ",", "<", "+", "-", "?", "&", "@"}

// tokens goes through the tokens of a source. The first place at which there
// is none, and no blank, comes as one of the kind noToken, and is the last one.
func tokens(source string) iter.Seq[api.ReadToken] {
	return func(yield func(api.ReadToken) bool) {
		line, at := 1, 0
		for {
			from := at + blanks(source[at:])
			line += strings.Count(source[at:from], "\n")
			if from == len(source) {
				return
			}
			kind, size := first(source[from:])
			at = from + size
			if !yield(api.ReadToken{Kind: kind, Text: source[from:at], At: from, Line: line}) || kind == noToken {
				return
			}
		}
	}
}

// blanks counts the bytes of the blanks and comments with which a text begins.
func blanks(text string) int {
	comment := false
	for i := range len(text) {
		c := text[i]
		comment = c == '#' || comment && c != '\n'
		if !comment && c != ' ' && c != '\n' {
			return i
		}
	}
	return len(text)
}

// first returns the kind and the size of the token with which a text begins.
func first(text string) (api.ReadKind, int) {
	c := text[0]
	switch {
	case isSmall(c):
		return small(text)
	case isGreat(c):
		return great(text)
	case isDigit(c), c == '~':
		return integer(text)
	}
	for _, s := range signs {
		if strings.HasPrefix(text, s) {
			return api.ReadSign, len(s)
		}
	}
	return noToken, 0
}

func small(text string) (api.ReadKind, int) {
	size := run(text, isSmall)
	switch {
	case size > api.ReadLetter:
		return noToken, 0
	case isWord(text[:size]):
		return api.ReadWord, size
	}
	return api.ReadName, size
}

func great(text string) (api.ReadKind, int) {
	size := 1 + run(text[1:], isSmall)
	if size > api.ReadLetter {
		return noToken, 0
	}
	return api.ReadGreat, size
}

func integer(text string) (api.ReadKind, int) {
	digits, below := strings.CutPrefix(text, "~")
	size := run(digits, isDigit)
	switch {
	case size == 0 || size > digitsMost:
		return noToken, 0
	case digits[0] == '0' && (below || size > 1):
		return noToken, 0
	case below:
		return api.ReadInt, 1 + size
	}
	return api.ReadInt, size
}

// run counts the bytes of a kind with which a text begins.
func run(text string, is func(byte) bool) int {
	for i := range len(text) {
		if !is(text[i]) {
			return i
		}
	}
	return len(text)
}

func isSmall(c byte) bool { return 'a' <= c && c <= 'z' }

func isGreat(c byte) bool { return 'A' <= c && c <= 'Z' }

func isDigit(c byte) bool { return '0' <= c && c <= '9' }

func isWord(text string) bool {
	switch text {
	case "data", "let", "in", "when", "then":
		return true
	}
	return false
}

// isToken returns whether a text, which is not empty, is a token of a kind.
func isToken(text string, kind api.ReadKind) bool {
	is, size := first(text)
	return is == kind && size == len(text)
}
