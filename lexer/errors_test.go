package lexer

import (
	"strings"
	"testing"

	"stagepost/api"
)

// TestTheFirstFaultEndsIt: the one that lies ahead is told, whatever lies behind it, and no token.
func TestTheFirstFaultEndsIt(t *testing.T) {
	wrong := []struct {
		s string
		e api.Errno
	}{
		{"!", api.ErrToken}, {"|", api.ErrToken}, {"\xff", api.ErrToken},
		{strings.Repeat("a", 33), api.ErrLong}, {"9223372036854775809", api.ErrNumber},
		{"'\xff'", api.ErrText}, {quoted(strings.Repeat("a", 65)), api.ErrLong},
	}
	for _, first := range wrong {
		faults(t, first.e, 0, first.s)
		faults(t, first.e, 9, "a 1 'b' ("+first.s)
		faults(t, first.e, 0, first.s+" '") // which would be ErrOpen
		for _, second := range wrong {
			faults(t, first.e, 0, first.s+" "+second.s)
			faults(t, first.e, 2, "a\n"+first.s+"\t"+second.s+" b")
		}
	}
	faults(t, api.ErrOpen, 0, "' ! | 9223372036854775809 "+strings.Repeat("a", 33))
	faults(t, api.ErrOpen, 0, "'"+" ! \xff")
	faults(t, api.ErrToken, 0, "!'")
}

// TestTooLongATextIsToldAheadOfAllElse, and at no place.
func TestTooLongATextIsToldAheadOfAllElse(t *testing.T) {
	for _, s := range []string{"!", "'", "'\xff'", "9223372036854775809", strings.Repeat("a", 33), quoted(strings.Repeat("a", 65)), "a"} {
		faults(t, api.ErrLong, -1, s+strings.Repeat(" ", 65537-len(s)))
		faults(t, api.ErrLong, -1, strings.Repeat(" ", 65537-len(s))+s)
		fits := s + strings.Repeat(" ", 65536-len(s))
		if _, f := Lex(fits); f.At != 0 {
			t.Errorf("Lex of %q: %v", short(fits), f)
		}
	}
}

// TestFaultsAreToldWhereTheTokenBegins, not at the byte at which it goes wrong.
func TestFaultsAreToldWhereTheTokenBegins(t *testing.T) {
	for ahead := range 70 {
		blank := strings.Repeat(" ", ahead)
		faults(t, api.ErrToken, ahead, blank+"!")
		faults(t, api.ErrLong, ahead, blank+strings.Repeat("a", 40))
		faults(t, api.ErrNumber, ahead, blank+"0009223372036854775809")
		faults(t, api.ErrOpen, ahead, blank+"'abc")
		faults(t, api.ErrText, ahead, blank+"'abc\xff'")
		faults(t, api.ErrLong, ahead, blank+quoted(strings.Repeat("é", 33)))
	}
}
