package lexer

import (
	"strings"
	"testing"

	"stagepost/api"
)

// quoted is s between apostrophes, as it stands.
func quoted(s string) string { return "'" + s + "'" }

func TestTexts(t *testing.T) {
	cuts(t, "''", text(""))
	cuts(t, "'a'", text("a"))
	cuts(t, "'A b'", text("A b")) // letters stay as they are
	cuts(t, "'it''s'", text("it's"))
	cuts(t, "'a''''b'", text("a''b"))
	cuts(t, "'a' 'b'", text("a"), at(4, text("b")))
	cuts(t, "'a'b'c'", text("a"), at(3, word("b")), at(4, text("c")))
	cuts(t, "'''a'''", text("'a'"))
	cuts(t, "'(,;|!#@\"\\'", text("(,;|!#@\"\\"))
	cuts(t, "'007'", text("007"))
	cuts(t, "'--'", text("--"))
	cuts(t, "'\\'", text("\\"))
	cuts(t, " '  ' ", at(1, text("  ")))
}

func TestApostrophesInARow(t *testing.T) {
	faults(t, api.ErrOpen, 0, "'")
	cuts(t, "''", text(""))
	faults(t, api.ErrOpen, 0, "'''")
	cuts(t, "''''", text("'"))
	faults(t, api.ErrOpen, 0, "'''''")
	cuts(t, "''''''", text("''"))
	for n := 1; n <= 66; n++ {
		s := strings.Repeat("'", 2*n)
		if n <= 65 {
			cuts(t, s, text(strings.Repeat("'", n-1)))
			cuts(t, s+"a", text(strings.Repeat("'", n-1)), at(2*n, word("a")))
			cuts(t, s+" ''", text(strings.Repeat("'", n-1)), at(2*n+1, text("")))
		} else {
			faults(t, api.ErrLong, 0, s)
		}
		faults(t, api.ErrOpen, 0, s+"'")
		faults(t, api.ErrOpen, 0, "'a"+s)
		faults(t, api.ErrOpen, 3, "'' "+s+"'")
	}
}

func TestTextsWithoutAnEnd(t *testing.T) {
	for _, s := range []string{"'a", "'a''", "'''a", "'a''b", "'a b c ( 1", "' ", "'\x00", "'\n"} {
		faults(t, api.ErrOpen, 0, s)
		faults(t, api.ErrOpen, 2, "a "+s)
		faults(t, api.ErrOpen, 4, "'b'("+s)
	}
	faults(t, api.ErrOpen, 0, "'a''"+strings.Repeat(" ", 65532))
}

func TestTextsOfUpTo64Bytes(t *testing.T) {
	for _, c := range []string{"a", "'", "é", "世", "😀", "\x00", " "} {
		for n := range 2*api.MaxWord/len(c) + 1 {
			said := strings.Repeat(c, n)
			s := quoted(strings.ReplaceAll(said, "'", "''"))
			if len(said) <= 64 {
				cuts(t, s, text(said))
			} else {
				faults(t, api.ErrLong, 0, s)
				faults(t, api.ErrLong, 2, "a "+s+" b")
			}
		}
	}
	faults(t, api.ErrLong, 0, quoted(strings.Repeat("a", 65534)))
	faults(t, api.ErrLong, 0, quoted(strings.Repeat("'", 65534)))
}

// TestDoubledApostrophesCountOnce, at the edge of 64 bytes, wherever they stand.
func TestDoubledApostrophesCountOnce(t *testing.T) {
	for i := range 64 {
		ahead, behind := strings.Repeat("a", i), strings.Repeat("b", 63-i)
		cuts(t, quoted(ahead+"''"+behind), text(ahead+"'"+behind))
		faults(t, api.ErrLong, 0, quoted(ahead+"''"+behind+"c"))
		faults(t, api.ErrLong, 0, quoted(ahead+"''''"+behind))
		faults(t, api.ErrOpen, 0, "'"+ahead+"''"+behind)
	}
}

func TestEachByteWithinAText(t *testing.T) {
	for x := range 256 {
		s := string([]byte{byte(x)})
		switch {
		case s == "'":
			faults(t, api.ErrOpen, 0, quoted(s))
		case x < 128:
			cuts(t, quoted(s), text(s))
			cuts(t, quoted("a"+s+"''"+s), text("a"+s+"'"+s))
		default:
			faults(t, api.ErrText, 0, quoted(s))
			faults(t, api.ErrText, 0, quoted("a"+s))
			faults(t, api.ErrText, 0, quoted(s+"a"))
		}
	}
}

func TestTextsThatAreNotUTF8(t *testing.T) {
	for _, s := range notUTF8() {
		faults(t, api.ErrText, 0, quoted(s))
		faults(t, api.ErrText, 0, quoted("a"+s+"b"))
		faults(t, api.ErrText, 0, quoted("''"+s+"''"))
		faults(t, api.ErrText, 3, "a ("+quoted(s))
		faults(t, api.ErrText, 0, quoted(s)+" !")
	}
	faults(t, api.ErrText, 0, "'\xc3''\xa9'") // what lies between the two bytes of a rune parts them
}

func TestTextsThatAreUTF8(t *testing.T) {
	for _, s := range []string{"\u0080", "é", "\u07ff", "\u0800", "世", "\ud7ff", "\ue000", "\ufffd", "\uffff", "\U00010000", "😀", "\U0010ffff", "\ufeff", "e\u0301", "\u212a"} {
		cuts(t, quoted(s), text(s))
		cuts(t, quoted("a"+s+"''"+s)+"b", text("a"+s+"'"+s), at(len(s)*2+5, word("b")))
	}
}

// TestOrderOfTheFaultsOfAText: ErrOpen, then ErrText, then ErrLong.
func TestOrderOfTheFaultsOfAText(t *testing.T) {
	long := strings.Repeat("a", 65)
	faults(t, api.ErrOpen, 0, "'\xff")
	faults(t, api.ErrOpen, 0, "'"+long)
	faults(t, api.ErrOpen, 0, "'\xff"+long)
	faults(t, api.ErrOpen, 0, "'"+long+"\xff")
	faults(t, api.ErrOpen, 0, "'\xc3''"+long)
	faults(t, api.ErrText, 0, quoted("\xff"+long))
	faults(t, api.ErrText, 0, quoted(long+"\xff"))
	faults(t, api.ErrText, 0, quoted(long[:64]+"\xff"))
	faults(t, api.ErrText, 0, quoted(long+"\xe4\xb8"))
	faults(t, api.ErrLong, 0, quoted(long))
	faults(t, api.ErrLong, 0, quoted(long+"\ufffd"))
}
