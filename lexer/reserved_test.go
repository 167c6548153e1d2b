package lexer

import (
	"slices"
	"strings"
	"testing"
)

func TestReservedWords(t *testing.T) {
	if len(reserved) != 43 {
		t.Fatalf("%d reserved words", len(reserved))
	}
	for _, w := range reserved {
		if !Reserved(w) {
			t.Errorf("%s is reserved", w)
		}
		for _, other := range []string{strings.ToUpper(w), strings.ToUpper(w[:1]) + w[1:], w[:len(w)-1] + strings.ToUpper(w[len(w)-1:]), " " + w, w + " ", w + "_", "_" + w, w + "1", w + "\x00", w + w, quoted(w)} {
			if Reserved(other) {
				t.Errorf("%q is not reserved", other)
			}
		}
	}
}

func TestOtherWordsAreNotReserved(t *testing.T) {
	for _, w := range []string{
		"", "a", "t", "_", "1", "sel", "selects", "inner", "outer", "left", "having", "distinct", "union", "between", "in", "like", "exists", "avg", "drop", "alter", "integer", "varchar", "boolean", "start", "end", "off", "offset", "with", "case", "then", "else", "view", "abort", "unknown",
		"release", "transaction", "column", "add", "all", "any", "é", "\xff", "(", "*", "||", strings.Repeat("a", 32), strings.Repeat("select", 10000),
	} {
		if Reserved(w) {
			t.Errorf("%q is not reserved", short(w))
		}
	}
}

// TestShortWords: all of up to three letters, and each beginning and each end of a reserved word.
func TestShortWords(t *testing.T) {
	var all []string
	for _, a := range small {
		for _, b := range small {
			all = append(all, string(a), string(a)+string(b))
			for _, c := range small {
				all = append(all, string(a)+string(b)+string(c))
			}
		}
	}
	for _, w := range reserved {
		for i := range w {
			all = append(all, w[:i], w[i:])
		}
	}
	for _, w := range all {
		if Reserved(w) != slices.Contains(reserved, w) {
			t.Errorf("Reserved of %q: %v", w, Reserved(w))
		}
	}
}

// TestLexSaysReservedWordsInTheLettersThatReservedAsksFor, however they are written.
func TestLexSaysReservedWordsInTheLettersThatReservedAsksFor(t *testing.T) {
	for _, w := range reserved {
		for _, written := range []string{w, strings.ToUpper(w), strings.ToUpper(w[:1]) + w[1:]} {
			if l := mustLex(t, written); len(l) != 1 || l[0] != word(w) || !Reserved(l[0].Text) {
				t.Errorf("Lex of %s: %v", written, l)
			}
		}
		says(t, w, word(w))
	}
}
