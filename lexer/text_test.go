package lexer

import (
	"math"
	"slices"
	"strings"
	"testing"

	"stagepost/api"
)

// These are the tests of Text.

func TestTextOfNoTokens(t *testing.T) {
	says(t, "")
	if s, f := Text([]api.Token{}); s != "" || f != (api.Fault{}) {
		t.Errorf("Text of an empty list: %q, %v", s, f)
	}
}

func TestTextOfOneToken(t *testing.T) {
	says(t, "a", word("a"))
	says(t, "_", word("_"))
	says(t, "a_1", word("a_1"))
	says(t, "select", word("select"))
	says(t, strings.Repeat("a", 32), word(strings.Repeat("a", 32)))
	says(t, "0", num(0))
	says(t, "7", num(7))
	says(t, "100", num(100))
	says(t, "9223372036854775807", num(math.MaxInt64))
	says(t, "9223372036854775808", num(1<<63))
	says(t, "''", text(""))
	says(t, "'a'", text("a"))
	says(t, "'A b'", text("A b"))
	says(t, "''''", text("'"))
	says(t, "''''''", text("''"))
	says(t, "'a''''b'''", text("a''b'"))
	says(t, "'\x00\n'", text("\x00\n"))
	says(t, "'é世😀\ufffd'", text("é世😀\ufffd"))
	says(t, quoted(strings.Repeat("a", 64)), text(strings.Repeat("a", 64)))
	says(t, quoted(strings.Repeat("''", 64)), text(strings.Repeat("'", 64)))
	for _, s := range signs {
		says(t, s, sign(s))
	}
}

func TestOneBlankBetweenEachTwo(t *testing.T) {
	says(t, "a b", word("a"), word("b"))
	says(t, "1 2 3", num(1), num(2), num(3))
	says(t, "'' ''", text(""), text(""))
	says(t, "< =", sign("<"), sign("="))
	says(t, "|| || ||", sign("||"), sign("||"), sign("||"))
	says(t, "t . a - 1", word("t"), sign("."), word("a"), sign("-"), num(1))
	says(t, "' ' ' '", text(" "), text(" "))
	says(t, strings.Repeat("( ", 99)+"(", slices.Repeat(list(sign("(")), 100)...)
}

// TestTokensThatMayNotBe, alone and among others: the first one's place is told.
func TestTokensThatMayNotBe(t *testing.T) {
	good := list(word("a"), num(1), text("b"), sign("("))
	for _, bad := range mayNotBe() {
		refuses(t, 0, bad)
		refuses(t, 0, bad, bad)
		refuses(t, 4, append(slices.Clone(good), bad)...)
		refuses(t, 0, append(list(bad), good...)...)
		refuses(t, 2, num(1), word("a"), bad, sign(","), bad)
	}
	refuses(t, 99, append(slices.Repeat(list(num(1)), 99), api.Token{})...)
}

func TestKindsThatAreNone(t *testing.T) {
	for kind := range 256 {
		switch api.TokenKind(kind) {
		case api.WordToken, api.NumberToken, api.TextToken, api.SignToken:
			continue
		}
		for _, token := range append(mayBe(), api.Token{}) {
			token.Kind = api.TokenKind(kind)
			refuses(t, 0, token)
			refuses(t, 1, word("a"), token)
		}
	}
}

// TestATokenOfAnotherKind: what one kind may say another one mostly may not.
func TestATokenOfAnotherKind(t *testing.T) {
	refuses(t, 0, word("("))
	refuses(t, 0, sign("a"))
	refuses(t, 0, sign("'a'"))
	refuses(t, 0, word(""))
	refuses(t, 0, sign(""))
	says(t, "'('", text("("))
	says(t, "'a'", text("a"))
}

func TestEachByteOfAWord(t *testing.T) {
	for x := range 256 {
		s := string([]byte{byte(x)})
		if strings.Contains(small+"_", s) {
			says(t, s, word(s))
		} else {
			refuses(t, 0, word(s))
		}
		if strings.Contains(small+"_"+digits, s) {
			says(t, "a"+s, word("a"+s))
			says(t, "_"+s+"b", word("_"+s+"b"))
		} else {
			refuses(t, 0, word("a"+s))
			refuses(t, 0, word("_"+s+"b"))
		}
	}
}

func TestEachOneAndTwoBytesOfASign(t *testing.T) {
	for x := range 256 {
		for y := range 257 {
			s := string([]byte{byte(x)})
			if y < 256 {
				s += string([]byte{byte(y)})
			}
			if slices.Contains(signs, s) {
				says(t, s, sign(s))
			} else {
				refuses(t, 0, sign(s))
			}
		}
	}
}

func TestNumbersOfTokens(t *testing.T) {
	for shift := range 64 {
		x := uint64(1) << shift
		for _, y := range []uint64{x - 1, x, x + 1} {
			if y <= 1<<63 {
				says(t, string(digitsOf(y)), num(y))
			} else {
				refuses(t, 0, num(y))
			}
			if y != 0 {
				refuses(t, 0, api.Token{Kind: api.WordToken, Text: "a", Number: y})
				refuses(t, 0, api.Token{Kind: api.TextToken, Text: "a", Number: y})
				refuses(t, 0, api.Token{Kind: api.SignToken, Text: "(", Number: y})
			}
		}
	}
}

// digitsOf are the digits of a number, one by one.
func digitsOf(x uint64) []byte {
	if x < 10 {
		return []byte{digits[x]}
	}
	return append(digitsOf(x/10), digits[x%10])
}

// TestTextHasNoLimit: of how long it is the chapter says nothing; Lex says ErrLong of it then.
func TestTextHasNoLimit(t *testing.T) {
	l := slices.Repeat(list(text(strings.Repeat("'", 64))), 1000)
	s := mustText(t, l...)
	if len(s) != 1000*130+999 {
		t.Errorf("Text has %d bytes", len(s))
	}
	faults(t, api.ErrLong, -1, s)
}
