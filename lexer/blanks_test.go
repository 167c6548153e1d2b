package lexer

import (
	"slices"
	"strings"
	"testing"

	"stagepost/api"
)

func TestLexOfNothing(t *testing.T) {
	cuts(t, "")
}

func TestLexOfBlanksAlone(t *testing.T) {
	for _, b := range blanks {
		cuts(t, b)
		cuts(t, b+b)
		cuts(t, strings.Repeat(b, 1000))
	}
	cuts(t, "\t\n\r ")
	cuts(t, " \r\n\t \r\n")
}

func TestBlanksArePassedOver(t *testing.T) {
	for _, b := range blanks {
		cuts(t, b+"a", at(1, word("a")))
		cuts(t, "a"+b, word("a"))
		cuts(t, "a"+b+"b", word("a"), at(2, word("b")))
		cuts(t, b+b+"1"+b+b+"2"+b, at(2, num(1)), at(5, num(2)))
		cuts(t, "<"+b+"=", sign("<"), at(2, sign("=")))
		cuts(t, "'a'"+b+"'b'", text("a"), at(4, text("b")))
		cuts(t, "'"+b+"'", text(b)) // within a text it is no blank
		faults(t, api.ErrToken, 0, "|"+b+"|")
	}
}

// ofByte is what Lex answers of a text that is this byte alone.
func ofByte(b byte) ([]api.Token, api.Errno) {
	s := string([]byte{b})
	switch {
	case slices.Contains(blanks, s):
		return nil, api.OK
	case strings.Contains(capital, s):
		return list(word(small[b-'A' : b-'A'+1])), api.OK
	case strings.Contains(small+"_", s):
		return list(word(s)), api.OK
	case strings.Contains(digits, s):
		return list(num(uint64(strings.Index(digits, s)))), api.OK
	case slices.Contains(signs, s):
		return list(sign(s)), api.OK
	case s == "'":
		return nil, api.ErrOpen
	}
	return nil, api.ErrToken
}

func TestLexOfEverySingleByte(t *testing.T) {
	counts := map[api.Errno]int{}
	for x := range 256 {
		want, e := ofByte(byte(x))
		counts[e]++
		s := string([]byte{byte(x)})
		if e != api.OK {
			faults(t, e, 0, s)
			faults(t, e, 2, "a "+s)
			continue
		}
		cuts(t, s, want...)
	}
	// 4 blanks, 53 letters, 10 digits, 13 signs of one byte; the apostrophe; all others.
	if counts[api.OK] != 80 || counts[api.ErrOpen] != 1 || counts[api.ErrToken] != 175 {
		t.Errorf("bytes by what becomes of them: %v", counts)
	}
}

// TestBytesThatBeginNoToken: such a byte is told at its place, wherever it stands outside of texts.
func TestBytesThatBeginNoToken(t *testing.T) {
	for x := range 256 {
		if _, e := ofByte(byte(x)); e != api.ErrToken {
			continue
		}
		s := string([]byte{byte(x)})
		faults(t, api.ErrToken, 1, "a"+s)
		faults(t, api.ErrToken, 1, "1"+s)
		faults(t, api.ErrToken, 1, " "+s+" ")
		faults(t, api.ErrToken, 3, "'a'"+s)
		faults(t, api.ErrToken, 1, "<"+s+"=")
		faults(t, api.ErrToken, 2, "ab"+s+"!")
	}
	for _, s := range []string{"\x00", "\x0b", "\x0c", "\x7f", "\x80", "\xff", "\"", "`", "é", "世", "\u00a0", "\u0085", "\u2028", "\u3000", "\ufeff", "\ufffd", "😀", "ſ", "\u212a", "٣", "Ａ", "＜"} {
		faults(t, api.ErrToken, 0, s)
		faults(t, api.ErrToken, 3, "ab "+s)
		faults(t, api.ErrToken, 2, "ab"+s+"c")
		faults(t, api.ErrToken, 2, "12"+s)
	}
}

func TestTextsOfUpTo65536Bytes(t *testing.T) {
	cuts(t, strings.Repeat(" ", 65536))
	cuts(t, strings.Repeat(" ", 65535)+"a", at(65535, word("a")))
	cuts(t, "a"+strings.Repeat("\n", 65535), word("a"))
	cuts(t, strings.Repeat("0", 65535)+"7", num(7))
	if l := mustLex(t, strings.Repeat("(", 65536)); len(l) != 65536 || l[65535] != at(65535, sign("(")) {
		t.Errorf("%d tokens", len(l))
	}
	faults(t, api.ErrLong, 1, strings.Repeat("1a", 32768))
	faults(t, api.ErrToken, 65535, strings.Repeat(" ", 65535)+"!")
	faults(t, api.ErrOpen, 65535, strings.Repeat(" ", 65535)+"'")
	faults(t, api.ErrOpen, 0, "'"+strings.Repeat("a", 65535))
}

// TestTextsOfMoreThan65536Bytes: whatever they say, bytes are counted, no runes.
func TestTextsOfMoreThan65536Bytes(t *testing.T) {
	for _, s := range []string{
		strings.Repeat(" ", 65537), strings.Repeat("a", 65537), strings.Repeat("(", 65537), strings.Repeat("0", 65537), strings.Repeat("'", 65537),
		"!" + strings.Repeat(" ", 65536), strings.Repeat("\xff", 65537), strings.Repeat("é", 32769), "'" + strings.Repeat("é", 32768), strings.Repeat(" ", 1<<20),
	} {
		faults(t, api.ErrLong, -1, s)
	}
}
