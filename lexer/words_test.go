package lexer

import (
	"strings"
	"testing"

	"stagepost/api"
)

func TestWords(t *testing.T) {
	cuts(t, "a", word("a"))
	cuts(t, "select", word("select"))
	cuts(t, "_", word("_"))
	cuts(t, "__a_1_", word("__a_1_"))
	cuts(t, "a0123456789", word("a0123456789"))
	cuts(t, "_9", word("_9"))
	cuts(t, "a b  c", word("a"), at(2, word("b")), at(5, word("c")))
}

func TestWordsAreSaidInSmallLetters(t *testing.T) {
	cuts(t, capital, word(small))
	cuts(t, small, word(small))
	cuts(t, "SeLeCt_1_X", word("select_1_x"))
	cuts(t, "_A", word("_a"))
	cuts(t, "A1B2", word("a1b2"))
	for i := range 26 {
		cuts(t, capital[i:i+1]+small[i:i+1], word(small[i:i+1]+small[i:i+1]))
		cuts(t, "x"+capital[i:i+1]+"9", word("x"+small[i:i+1]+"9"))
	}
}

func TestEachLetterAndDigitGoesOnInAWord(t *testing.T) {
	for _, r := range small + "_" + digits {
		cuts(t, "a"+string(r), word("a"+string(r)))
		cuts(t, "_"+string(r)+"b", word("_"+string(r)+"b"))
	}
}

// TestWordsOfUpTo32Bytes, of each kind of letters.
func TestWordsOfUpTo32Bytes(t *testing.T) {
	for _, letter := range []string{"a", "z", "A", "Z", "_"} {
		for _, more := range []string{"a", "Z", "_", "0", "9"} {
			s := letter + strings.Repeat(more, 31)
			cuts(t, s, word(strings.ToLower(s)))
			cuts(t, " "+s+" b", at(1, word(strings.ToLower(s))), at(34, word("b")))
			faults(t, api.ErrLong, 0, s+more)
			faults(t, api.ErrLong, 0, s+letter)
			faults(t, api.ErrLong, 0, s+strings.Repeat(more, 1000))
			faults(t, api.ErrLong, 3, "a, "+s+more+" b")
		}
	}
	cuts(t, strings.Repeat("a", 31), word(strings.Repeat("a", 31)))
	faults(t, api.ErrLong, 0, strings.Repeat("a", 65536))
}

// TestAWordEndsAtWhatIsNoLetterAndNoDigit, and what stands there is read on its own.
func TestAWordEndsAtWhatIsNoLetterAndNoDigit(t *testing.T) {
	full := strings.Repeat("a", 32)
	cuts(t, full+"(", word(full), at(32, sign("(")))
	cuts(t, full+"'a'", word(full), at(32, text("a")))
	cuts(t, "1"+full, num(1), at(1, word(full)))
	faults(t, api.ErrToken, 32, full+"é")
	faults(t, api.ErrToken, 3, "caf\xc3\xa9")
	faults(t, api.ErrToken, 1, "a@b")
}
