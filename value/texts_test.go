package value

import (
	"cmp"
	"strings"
	"testing"

	"stagepost/api"
)

func TestJoin(t *testing.T) {
	wants(t, word("ab"), api.OpJoin, word("a"), word("b"))
	wants(t, word("ba"), api.OpJoin, word("b"), word("a"))
	wants(t, word(""), api.OpJoin, word(""), word(""))
	wants(t, word("a"), api.OpJoin, word(""), word("a"))
	wants(t, word("a"), api.OpJoin, word("a"), word(""))
	wants(t, word("\x00\xff"), api.OpJoin, word("\x00"), word("\xff"))
	wants(t, word("é"), api.OpJoin, word("\xc3"), word("\xa9"))
}

func TestJoinOfUpTo64Bytes(t *testing.T) {
	for m := range api.MaxWord + 1 {
		for n := range api.MaxWord + 1 {
			a, b := strings.Repeat("a", m), strings.Repeat("b", n)
			if m+n <= 64 {
				wants(t, word(a+b), api.OpJoin, word(a), word(b))
			} else {
				refuses(t, api.ErrLong, api.OpJoin, word(a), word(b))
			}
		}
	}
}

// TestJoinCountsBytes: 64 bytes are 32 of these.
func TestJoinCountsBytes(t *testing.T) {
	a := strings.Repeat("é", 16)
	wants(t, word(a+a), api.OpJoin, word(a), word(a))
	refuses(t, api.ErrLong, api.OpJoin, word(a+"a"), word(a))
}

// comparesAs sees to it that each comparison answers what the order (-1, 0 or 1) of both says.
func comparesAs(t *testing.T, order int, a, b api.Value) {
	t.Helper()
	for op, is := range map[api.Op]bool{
		api.OpEq: order == 0, api.OpNe: order != 0, api.OpLt: order < 0, api.OpLe: order <= 0, api.OpGt: order > 0, api.OpGe: order >= 0,
	} {
		want := no()
		if is {
			want = yes()
		}
		wants(t, want, op, a, b)
	}
}

func TestComparisons(t *testing.T) {
	comparesAs(t, -1, no(), yes())
	comparesAs(t, 0, no(), no())
	comparesAs(t, 0, yes(), yes())
	comparesAs(t, 1, yes(), no())
	comparesAs(t, -1, num(-1), num(0))
	comparesAs(t, -1, num(least), num(greatest)) // whose difference wraps round
	comparesAs(t, 1, num(greatest), num(least))
	comparesAs(t, 0, num(least), num(least))
	comparesAs(t, -1, num(9), num(10)) // by number, not by digits
	comparesAs(t, -1, word("a"), word("b"))
	comparesAs(t, -1, word(""), word("\x00"))
	comparesAs(t, -1, word("a"), word("aa")) // which begins with it
	comparesAs(t, 1, word("b"), word("aa"))
	comparesAs(t, -1, word("10"), word("9")) // byte by byte
	comparesAs(t, -1, word("A"), word("a"))
	comparesAs(t, -1, word("z"), word("é")) // bytes have no sign
	comparesAs(t, -1, word("\x7f"), word("\x80"))
	comparesAs(t, -1, word("\xfe"), word("\xff"))
	comparesAs(t, 1, word("\uffff"), word("\xed\xa0\x80")) // bytes that are no rune are compared as bytes
	comparesAs(t, 0, word("\xff"), word("\xff"))
}

func TestComparisonsOfEdges(t *testing.T) {
	all := edgeValues()
	for i, a := range all {
		for j, b := range all {
			if a.Kind == b.Kind && a.Kind != api.Null {
				comparesAs(t, cmp.Compare(i, j), a, b)
			}
		}
	}
}
