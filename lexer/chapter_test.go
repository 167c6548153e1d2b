package lexer

import (
	"strings"
	"testing"

	"stagepost/api"
)

func TestExamplesOfTheChapter(t *testing.T) {
	cuts(t, "SELECT a1,'it''s'", word("select"), at(7, word("a1")), at(9, sign(",")), at(10, text("it's")))
	cuts(t, "1<=2<>3", num(1), at(1, sign("<=")), at(3, num(2)), at(4, sign("<>")), at(6, num(3)))
	cuts(t, "12ab", num(12), at(2, word("ab")))
	faults(t, api.ErrNumber, 0, "9223372036854775809")
	faults(t, api.ErrToken, 0, "!")
	faults(t, api.ErrOpen, 0, "'a")
	faults(t, api.ErrText, 0, "'\xff'")
	faults(t, api.ErrToken, 0, "|")
	says(t, "select a1 , 'it''s'", word("select"), word("a1"), sign(","), text("it's"))
	if Reserved("Select") || !Reserved("select") {
		t.Error("Reserved of Select, of select")
	}
}

// TestNumbersOfTheErrors: the numbers that the chapter names.
func TestNumbersOfTheErrors(t *testing.T) {
	if _, f := Text(list(api.Token{})); f.Err != 2 {
		t.Errorf("ErrArg: %d", f.Err)
	}
	for s, want := range map[string]api.Errno{
		strings.Repeat("a", 33): 3, "'" + strings.Repeat("a", 65) + "'": 3, strings.Repeat(" ", 65537): 3, "#": 230, "'": 231, "'\xff'": 232, "9223372036854775809": 233,
	} {
		if _, f := Lex(s); f.Err != want {
			t.Errorf("Lex of %q: %d, want %d", short(s), f.Err, want)
		}
	}
}

// TestNumbersOfTheKinds: those that the chapter names, in its order.
func TestNumbersOfTheKinds(t *testing.T) {
	for i, token := range mustLex(t, "a 1 'a' (") {
		if int(token.Kind) != i+1 {
			t.Errorf("the kind of %v", token)
		}
	}
	if api.NoToken != 0 {
		t.Error("NoToken")
	}
}
