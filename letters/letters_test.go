package letters_test

import (
	"strings"
	"testing"

	"swingle/letters"
)

func TestIsName(t *testing.T) {
	for _, name := range []string{"a", "z", "A", "Z", "aZzA", "abcdefgh"} {
		if !letters.IsName(name) {
			t.Error(name, "is one")
		}
	}
	for _, name := range []string{"", "abcdefghi", "a b", " ", "a1", "0", "a@", "a[", "a`", "a{", "_", "é", "aé", "abcdefé", "\xff", "a\x00", strings.Repeat("a", 1<<20)} {
		if letters.IsName(name) {
			t.Error(name, "is none")
		}
	}
}
