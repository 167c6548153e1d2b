package lexer

import (
	"strings"
	"testing"

	"stagepost/api"
)

func TestEachSign(t *testing.T) {
	if len(signs) != 17 {
		t.Fatalf("%d signs", len(signs))
	}
	for _, s := range signs {
		cuts(t, s, sign(s))
		cuts(t, " "+s+" ", at(1, sign(s)))
		cuts(t, "a"+s+"b", word("a"), at(1, sign(s)), at(1+len(s), word("b")))
		cuts(t, s+" "+s, sign(s), at(len(s)+1, sign(s)))
	}
}

// longest cuts a text of signs alone by the chapter's list of them; no token, if a piece is none.
func longest(s string) []api.Token {
	var l []api.Token
	for i := 0; i < len(s); {
		best := ""
		for _, one := range signs {
			if len(one) > len(best) && strings.HasPrefix(s[i:], one) {
				best = one
			}
		}
		if best == "" {
			return nil
		}
		l = append(l, at(i, sign(best)))
		i += len(best)
	}
	return l
}

// TestPairsOfSigns: without a blank between them the longest is read first, with one each is itself.
func TestPairsOfSigns(t *testing.T) {
	joined := 0
	for _, a := range signs {
		for _, b := range signs {
			want := longest(a + b)
			if want == nil {
				t.Fatalf("%s%s has no tokens", a, b)
			}
			if len(want) != 2 || want[0].Text != a {
				joined++
			}
			cuts(t, a+b, want...)
			cuts(t, a+" "+b, sign(a), at(len(a)+1, sign(b)))
		}
	}
	// < ahead of =, of > and of >=, and > ahead of =.
	if joined != 4 {
		t.Errorf("%d pairs are read otherwise than one behind the other", joined)
	}
}

func TestTheLongestSignIsRead(t *testing.T) {
	cuts(t, "<=", sign("<="))
	cuts(t, ">=", sign(">="))
	cuts(t, "<>", sign("<>"))
	cuts(t, "><", sign(">"), at(1, sign("<")))
	cuts(t, "=<", sign("="), at(1, sign("<")))
	cuts(t, "=>", sign("="), at(1, sign(">")))
	cuts(t, "==", sign("="), at(1, sign("=")))
	cuts(t, "<<", sign("<"), at(1, sign("<")))
	cuts(t, "<=>", sign("<="), at(2, sign(">")))
	cuts(t, "<>=", sign("<>"), at(2, sign("=")))
	cuts(t, "<>>=", sign("<>"), at(2, sign(">=")))
	cuts(t, "<<=", sign("<"), at(1, sign("<=")))
	cuts(t, "--", sign("-"), at(1, sign("-")))
	cuts(t, "/*", sign("/"), at(1, sign("*")))
	cuts(t, "()", sign("("), at(1, sign(")")))
}

func TestBars(t *testing.T) {
	faults(t, api.ErrToken, 0, "|")
	cuts(t, "||", sign("||"))
	faults(t, api.ErrToken, 2, "|||")
	cuts(t, "||||", sign("||"), at(2, sign("||")))
	faults(t, api.ErrToken, 4, "|||||")
	faults(t, api.ErrToken, 0, "| |")
	faults(t, api.ErrToken, 0, "|=")
	faults(t, api.ErrToken, 1, "<|")
	cuts(t, "a||b", word("a"), at(1, sign("||")), at(3, word("b")))
	faults(t, api.ErrToken, 1, "a|b")
	faults(t, api.ErrToken, 0, "|\xff")
	faults(t, api.ErrToken, 0, "|é")
}

// TestWhatLooksLikeASign: bytes with which other languages make theirs.
func TestWhatLooksLikeASign(t *testing.T) {
	for _, s := range []string{"!", "!=", "\"", "#", "$", "&", "&&", ":", "::", "?", "@", "[", "]", "\\", "^", "`", "{", "}", "~"} {
		faults(t, api.ErrToken, 0, s)
		faults(t, api.ErrToken, 2, "a "+s+"=")
	}
}
