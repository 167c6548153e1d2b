package lexer

import (
	"math"
	"slices"
	"strings"
	"testing"

	"stagepost/api"
)

func word(s string) api.Token { return api.Token{Kind: api.WordToken, Text: s} }

func num(x uint64) api.Token { return api.Token{Kind: api.NumberToken, Number: x} }

func text(s string) api.Token { return api.Token{Kind: api.TextToken, Text: s} }

func sign(s string) api.Token { return api.Token{Kind: api.SignToken, Text: s} }

// at is the token at a place of a text.
func at(place int, token api.Token) api.Token {
	token.At = place
	return token
}

func list(l ...api.Token) []api.Token { return l }

// The chapter's signs, blanks and reserved words.
var (
	signs    = strings.Fields("( ) , ; . * + - / % = < > <> <= >= ||")
	blanks   = []string{"\t", "\n", "\r", " "}
	reserved = strings.Fields("and as asc begin bool by commit count create delete desc false from group index insert int into is join key limit max min not null on or order primary rollback savepoint select set sum table text to true unique update values where")
)

const (
	small   = "abcdefghijklmnopqrstuvwxyz"
	capital = "ABCDEFGHIJKLMNOPQRSTUVWXYZ"
	digits  = "0123456789"
)

// notUTF8 are texts that are not valid UTF-8: single bytes, runes that are cut off, too long for what they say, no runes at all.
func notUTF8() []string {
	return []string{
		"\x80", "\xbf", "\xc0", "\xc3", "\xe9", "\xf0", "\xfe", "\xff", "a\xff", "\xffa", "a\xffb", "é\xff", "\xffé", "\ufffd\xff",
		"\xc0\x80", "\xc1\xbf", "\xe0\x80\x80", "\xed\xa0\x80", "\xed\xbf\xbf", "\xf4\x90\x80\x80", "\xf0\x80\x80\x80", "\xf5\x80\x80\x80",
		"\xc3a", "\xe4\xb8", "\xe4\xb8a", "\xf0\x9f\x98", "\xf0\x9f\x98a", "\xa9\xc3", strings.Repeat("a", api.MaxWord-1) + "\xc3",
	}
}

// mayBe are tokens of every kind that may be, edges among them.
func mayBe() []api.Token {
	l := list(
		word("a"), word("z"), word("_"), word("__"), word("a1"), word("_1"), word("select"), word(strings.Repeat("z", api.MaxName)), word("a"+strings.Repeat("9", api.MaxName-1)),
		num(0), num(1), num(9), num(10), num(math.MaxInt64), num(1<<63),
		text(""), text("'"), text("''"), text("'''"), text("a"), text("it's"), text("A b"), text("\x00\t\n\r\x7f"), text("é世😀"), text("\ufffd"), text("12"), text("||"),
		text(strings.Repeat("'", api.MaxWord)), text(strings.Repeat("é", api.MaxWord/2)), text(strings.Repeat("a", api.MaxWord)),
	)
	for _, s := range signs {
		l = append(l, sign(s))
	}
	return l
}

// mayNotBe are tokens that may not be, at least one for each way of not being one.
func mayNotBe() []api.Token {
	l := list(
		api.Token{}, api.Token{Text: "a"}, api.Token{Number: 1}, api.Token{Kind: 5}, api.Token{Kind: 5, Text: "a"}, api.Token{Kind: 6, Number: 1}, api.Token{Kind: 255, Text: "("},
		word(""), word("A"), word("aB"), word("selecT"), word("1"), word("1a"), word("9_"), word(strings.Repeat("a", api.MaxName+1)), word(strings.Repeat("a", 1000)),
		word("a b"), word(" a"), word("a "), word("a-b"), word("a'"), word("é"), word("aé"), word("a\x00"), word("a\xff"), word("\xff"), word("("), word("ſ"), word("\u212a"),
		num(1<<63+1), num(math.MaxUint64),
		api.Token{Kind: api.NumberToken, Text: "1", Number: 1}, api.Token{Kind: api.NumberToken, Text: "a"}, api.Token{Kind: api.NumberToken, Text: "0"},
		text(strings.Repeat("a", api.MaxWord+1)), text(strings.Repeat("'", api.MaxWord+1)), text(strings.Repeat("é", api.MaxWord/2)+"a"), text(strings.Repeat("a", 1000)+"\xff"),
		sign(""), sign("!"), sign("|"), sign("|||"), sign("=="), sign("=<"), sign("=>"), sign("><"), sign("!="), sign("<<"), sign("( "), sign(" ("), sign("()"), sign("a"), sign("1"), sign("'"), sign("\""), sign("["), sign("\x00"), sign("\xff"), sign(small),
		api.Token{Kind: api.WordToken, Text: "a", Number: 1}, api.Token{Kind: api.TextToken, Text: "a", Number: 1}, api.Token{Kind: api.TextToken, Number: math.MaxUint64}, api.Token{Kind: api.SignToken, Text: "(", Number: 1},
	)
	for _, s := range notUTF8() {
		l = append(l, text(s))
	}
	for _, token := range mayBe() {
		l = append(l, at(1, token), at(-1, token), at(math.MaxInt, token), at(math.MinInt, token))
	}
	return l
}

// cuts sees to it that Lex cuts s into just these tokens.
func cuts(t *testing.T, s string, want ...api.Token) {
	t.Helper()
	if got, f := Lex(s); f != (api.Fault{}) || !slices.Equal(got, want) {
		t.Errorf("Lex of %q: %v, %v; want %v", short(s), got, f, want)
	}
}

// faults sees to it that Lex of s is refused so, at that place, and that no token is answered.
func faults(t *testing.T, e api.Errno, place int, s string) {
	t.Helper()
	if got, f := Lex(s); f != (api.Fault{Err: e, At: place}) || len(got) != 0 {
		t.Errorf("Lex of %q: %v, %v; want %v at %d", short(s), got, f, e, place)
	}
}

// says sees to it that Text tells the tokens so.
func says(t *testing.T, want string, l ...api.Token) {
	t.Helper()
	if got, f := Text(l); f != (api.Fault{}) || got != want {
		t.Errorf("Text of %v: %q, %v; want %q", l, got, f, want)
	}
}

// refuses sees to it that Text refuses the token at that place.
func refuses(t *testing.T, place int, l ...api.Token) {
	t.Helper()
	if got, f := Text(l); f != (api.Fault{Err: api.ErrArg, At: place}) || got != "" {
		t.Errorf("Text of %v: %q, %v; want ErrArg at %d", l, got, f, place)
	}
}

// mustLex is the tokens of a text that has no fault.
func mustLex(t *testing.T, s string) []api.Token {
	t.Helper()
	l, f := Lex(s)
	if f != (api.Fault{}) {
		t.Fatalf("Lex of %q: %v", short(s), f)
	}
	return l
}

// mustText is the text of tokens that may all be.
func mustText(t *testing.T, l ...api.Token) string {
	t.Helper()
	s, f := Text(l)
	if f != (api.Fault{}) {
		t.Fatalf("Text of %v: %v", l, f)
	}
	return s
}

// short is the beginning of a text, for a message.
func short(s string) string { return s[:min(len(s), 200)] }

// unplaced are the tokens with no places.
func unplaced(l []api.Token) []api.Token {
	out := slices.Clone(l)
	for i := range out {
		out[i].At = 0
	}
	return out
}
