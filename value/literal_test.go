package value

import (
	"slices"
	"strconv"
	"strings"
	"testing"
	"unicode/utf8"

	"stagepost/api"
)

func saysLiteral(t *testing.T, want string, v api.Value) {
	t.Helper()
	if got, e := Literal(v); got != want || e != api.OK {
		t.Errorf("Literal of %v: %q, %v; want %q", v, got, e, want)
	}
}

func hasNoLiteral(t *testing.T, v api.Value) {
	t.Helper()
	if got, e := Literal(v); got != "" || e != api.ErrArg {
		t.Errorf("Literal of %v: %q, %v", v, got, e)
	}
}

func TestLiteral(t *testing.T) {
	saysLiteral(t, "NULL", null())
	saysLiteral(t, "TRUE", yes())
	saysLiteral(t, "FALSE", no())
	saysLiteral(t, "0", num(0))
	saysLiteral(t, "1", num(1))
	saysLiteral(t, "-1", num(-1))
	saysLiteral(t, "10", num(10))
	saysLiteral(t, "9223372036854775807", num(greatest))
	saysLiteral(t, "-9223372036854775808", num(least))
	saysLiteral(t, "''", word(""))
	saysLiteral(t, "'a'", word("a"))
	saysLiteral(t, "''''", word("'"))
	saysLiteral(t, "''''''", word("''"))
	saysLiteral(t, "'a''''b'''", word("a''b'"))
	saysLiteral(t, "'NULL'", word("NULL"))
	saysLiteral(t, "'7'", word("7"))
	saysLiteral(t, "'\x00\n\\\"'", word("\x00\n\\\""))
	saysLiteral(t, "'é世😀'", word("é世😀"))
	saysLiteral(t, "'\ufffd'", word("\ufffd")) // it is valid, though it stands for what is not
	saysLiteral(t, "'"+strings.Repeat("''", api.MaxWord)+"'", word(strings.Repeat("'", api.MaxWord)))
	saysLiteral(t, "'"+strings.Repeat("a", api.MaxWord)+"'", word(strings.Repeat("a", api.MaxWord)))
}

func TestLiteralOfTextsThatAreNoUTF8(t *testing.T) {
	for _, s := range []string{
		"\x80", "\xff", "a\xff", "\xffa", "'\xff'", "\xc3", "\xc3'", "\xc0\x80", "\xed\xa0\x80", "\xf4\x90\x80\x80", "\xf0\x9f\x98", "\xe9",
		strings.Repeat("a", api.MaxWord-1) + "\xc3",
	} {
		hasNoLiteral(t, word(s))
	}
}

func TestLiteralOfValuesThatMayNotBe(t *testing.T) {
	for _, v := range noValues() {
		hasNoLiteral(t, v)
	}
	for _, k := range noKinds() {
		hasNoLiteral(t, api.Value{Kind: k})
	}
}

// unliteral is the value whose literal s is.
func unliteral(s string) api.Value {
	switch s {
	case "NULL":
		return null()
	case "TRUE":
		return yes()
	case "FALSE":
		return no()
	}
	if inner, ok := strings.CutPrefix(s, "'"); ok {
		return word(strings.ReplaceAll(strings.TrimSuffix(inner, "'"), "''", "'"))
	}
	x, _ := strconv.ParseInt(s, 10, 64)
	return num(x)
}

// TestALiteralSaysItsValue: nothing is lost, and no two have the same.
func TestALiteralSaysItsValue(t *testing.T) {
	said := map[string]api.Value{}
	for _, v := range edgeValues() {
		s, e := Literal(v)
		if v.Kind == api.Text && !utf8.ValidString(v.Text) {
			hasNoLiteral(t, v)
			continue
		}
		if other, there := said[s]; e != api.OK || there || unliteral(s) != v {
			t.Errorf("Literal of %v: %q, %v (which %v has, %v)", v, s, e, other, there)
		}
		said[s] = v
	}
	if !slices.Contains(edgeTexts(), "\xff") {
		t.Error("no text that is no UTF-8 was asked for")
	}
}
