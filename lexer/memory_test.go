package lexer

import (
	"slices"
	"strings"
	"testing"
	"unsafe"

	"stagepost/api"
)

// These are the tests of rule 4, and of P7: an answer hangs on the arguments alone.

// share says whether two texts share memory.
func share(a, b string) bool {
	if a == "" || b == "" {
		return false
	}
	x, y := uintptr(unsafe.Pointer(unsafe.StringData(a))), uintptr(unsafe.Pointer(unsafe.StringData(b)))
	return x < y+uintptr(len(b)) && y < x+uintptr(len(a))
}

// fresh is a text in memory of its own.
func fresh(s string) string { return string([]byte(s)) }

func TestTokensShareNoMemoryWithTheText(t *testing.T) {
	for _, s := range []string{
		"select a1 , b_2", "SELECT A", "Select", strings.Repeat("a", 32), "'a' 'it''s' 'é'", quoted(strings.Repeat("a", 64)), quoted(strings.Repeat("''", 64)), "( ) <> <= >= || . *", "12 a 'b' (",
	} {
		s = fresh(s)
		was := strings.Clone(s)
		for _, token := range mustLex(t, s) {
			if share(token.Text, s) {
				t.Errorf("%v of %q shares its memory", token, s)
			}
		}
		if s != was {
			t.Errorf("%q was changed: %q", was, s)
		}
	}
}

func TestTextSharesNoMemoryWithTheTokens(t *testing.T) {
	for _, token := range mayBe() {
		token.Text = fresh(token.Text)
		for _, l := range [][]api.Token{list(token), list(token, token), list(num(1), token)} {
			if s := mustText(t, l...); share(s, token.Text) {
				t.Errorf("Text of %v shares its memory", l)
			}
		}
	}
}

// TestListsOfTokensShareNone: one answer is changed, spare room and all, and another one is not.
func TestListsOfTokensShareNone(t *testing.T) {
	for _, s := range []string{"", " ", "a", "a 1 'b' (", strings.Repeat("a,", 100)} {
		want := slices.Clone(mustLex(t, s))
		one, two := mustLex(t, s), mustLex(t, s)
		for i := range one[:cap(one)] {
			one[:cap(one)][i] = api.Token{Kind: 9, Text: "no token", Number: 9, At: 9}
		}
		if _, f := Lex(s + " !"); f.Err != api.ErrToken {
			t.Errorf("Lex of %q and !: %v", s, f)
		}
		if !slices.Equal(two, want) || !slices.Equal(mustLex(t, s), want) {
			t.Errorf("Lex of %q: %v, %v; want %v", s, two, mustLex(t, s), want)
		}
	}
}

func TestTextLeavesWhatItIsHanded(t *testing.T) {
	spare := api.Token{Kind: api.WordToken, Text: "spare"}
	for _, token := range append(mayBe(), mayNotBe()...) {
		all := append(list(word("a"), token, num(1)), slices.Repeat(list(spare), 8)...)
		was := slices.Clone(all)
		want, wantF := Text(slices.Clip(was[:3]))
		got, f := Text(all[:3])
		if got != want || f != wantF {
			t.Errorf("Text of %v hangs on the spare room: %q, %v", all[:3], got, f)
		}
		if !slices.Equal(all, was) {
			t.Errorf("Text of %v changed it: %v", was[:3], all)
		}
		for i := range all {
			all[i] = api.Token{}
		}
		if got != want {
			t.Errorf("Text of %v: its answer was changed from outside: %q", was[:3], got)
		}
	}
}

// TestAnswersHangOnArgumentsAlone asks again, behind other calls and refusals, in another order.
func TestAnswersHangOnArgumentsAlone(t *testing.T) {
	texts := []string{"", "a", "A", "!", "'", "''", "'\xff'", "1", "9223372036854775809", strings.Repeat("a", 33), "a 1 'b' (", "<=>", strings.Repeat(" ", 65537)}
	var first [][]api.Token
	var faultsOf []api.Fault
	for _, s := range texts {
		l, f := Lex(s)
		first, faultsOf = append(first, l), append(faultsOf, f)
	}
	for i := len(texts) - 1; i >= 0; i-- {
		if l, f := Lex(texts[i]); f != faultsOf[i] || !slices.Equal(l, first[i]) {
			t.Errorf("Lex of %q: first %v, %v, then %v, %v", short(texts[i]), first[i], faultsOf[i], l, f)
		}
	}
	tokens := append(mayBe(), mayNotBe()...)
	var told []string
	for _, token := range tokens {
		s, _ := Text(list(token))
		told = append(told, s)
	}
	for i := len(tokens) - 1; i >= 0; i-- {
		if s, _ := Text(list(tokens[i])); s != told[i] {
			t.Errorf("Text of %v: first %q, then %q", tokens[i], told[i], s)
		}
	}
}
