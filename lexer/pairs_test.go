package lexer

import (
	"testing"

	"stagepost/api"
)

// TestATokenRightBehindAnother, of each kind behind each other one, with no blank between them.
func TestATokenRightBehindAnother(t *testing.T) {
	cuts(t, "a'b'", word("a"), at(1, text("b")))
	cuts(t, "a(", word("a"), at(1, sign("(")))
	cuts(t, "a1", word("a1")) // a digit goes on in a word
	cuts(t, "ab", word("ab"))
	cuts(t, "1a", num(1), at(1, word("a")))
	cuts(t, "1_", num(1), at(1, word("_")))
	cuts(t, "1A", num(1), at(1, word("a")))
	cuts(t, "1'a'", num(1), at(1, text("a")))
	cuts(t, "1<", num(1), at(1, sign("<")))
	cuts(t, "12", num(12))
	cuts(t, "'a'b", text("a"), at(3, word("b")))
	cuts(t, "'a'1", text("a"), at(3, num(1)))
	cuts(t, "'a'||", text("a"), at(3, sign("||")))
	cuts(t, "'a''b'", text("a'b")) // an apostrophe goes on in a text
	cuts(t, ".a", sign("."), at(1, word("a")))
	cuts(t, "-1", sign("-"), at(1, num(1)))
	cuts(t, "||'a'", sign("||"), at(2, text("a")))
	cuts(t, "(*", sign("("), at(1, sign("*")))
}

// goesOn says whether b right behind a is no token of its own: it belongs to a, or the first byte of it does.
func goesOn(a, b api.Token) bool {
	switch a.Kind {
	case api.WordToken:
		return b.Kind == api.WordToken || b.Kind == api.NumberToken
	case api.NumberToken:
		return b.Kind == api.NumberToken
	case api.TextToken:
		return b.Kind == api.TextToken
	}
	return b.Kind == api.SignToken && longest(a.Text + b.Text)[0].Text != a.Text
}

// TestPairsOfTokens: each token right behind each other one, and with blanks between them.
func TestPairsOfTokens(t *testing.T) {
	alone := 0
	for _, a := range mayBe() {
		for _, b := range mayBe() {
			first, second := mustText(t, a), mustText(t, b)
			cuts(t, first+" "+second, a, at(len(first)+1, b))
			cuts(t, "\t"+first+"\r\n"+second+"\n", at(1, a), at(len(first)+3, b))
			if !goesOn(a, b) {
				alone++
				cuts(t, first+second, a, at(len(first), b))
			}
		}
	}
	if alone < 1000 {
		t.Errorf("%d pairs alone needed no blank", alone)
	}
}

func TestStatements(t *testing.T) {
	cuts(t, "insert into t values (1, 'a');",
		word("insert"), at(7, word("into")), at(12, word("t")), at(14, word("values")), at(21, sign("(")), at(22, num(1)), at(23, sign(",")), at(25, text("a")), at(28, sign(")")), at(29, sign(";")))
	cuts(t, "SELECT t.a\n\tFROM t\r\n\tWHERE b>=-7 AND c||'é'<>''",
		word("select"), at(7, word("t")), at(8, sign(".")), at(9, word("a")), at(12, word("from")), at(17, word("t")), at(21, word("where")), at(27, word("b")), at(28, sign(">=")), at(30, sign("-")), at(31, num(7)),
		at(33, word("and")), at(37, word("c")), at(38, sign("||")), at(40, text("é")), at(44, sign("<>")), at(46, text("")))
}
