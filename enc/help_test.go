package enc

import (
	"math"
	"strings"
	"testing"

	"stagepost/api"
)

func null() api.Value { return api.Value{} }

func truth(x int64) api.Value { return api.Value{Kind: api.Bool, Int: x} }

func num(x int64) api.Value { return api.Value{Kind: api.Int, Int: x} }

func word(s string) api.Value { return api.Value{Kind: api.Text, Text: s} }

func tuple(l ...api.Value) []api.Value { return l }

// text makes a text of bytes that are told as numbers.
func text(bytes ...byte) string { return string(bytes) }

// mustTuple is the text of a tuple that has one.
func mustTuple(t *testing.T, l []api.Value) string {
	t.Helper()
	s, e := Tuple(l)
	if e != api.OK {
		t.Fatalf("Tuple of %v: %v", l, e)
	}
	return s
}

// mustStamp is the text of a stamp that has one.
func mustStamp(t *testing.T, at api.Stamp) string {
	t.Helper()
	s, e := Stamp(at)
	if e != api.OK {
		t.Fatalf("Stamp of %v: %v", at, e)
	}
	return s
}

// numbers are all at which a number gets one bit more, and their neighbours.
func numbers() []uint64 {
	l := []uint64{0, 300, math.MaxUint64}
	for k := range 64 {
		x := uint64(1) << k
		l = append(l, x-1, x, x+1)
	}
	return l
}

// edgeValues are values that may be, in their order: the least and the greatest of each kind, and texts with bytes that a tuple's text gives a meaning to.
func edgeValues() []api.Value {
	l := tuple(null(), truth(0), truth(1))
	for _, x := range []int64{math.MinInt64, math.MinInt64 + 1, math.MinInt32, -256, -1, 0, 1, 255, 256, math.MaxInt32, math.MaxInt64 - 1, math.MaxInt64} {
		l = append(l, num(x))
	}
	for _, s := range []string{
		"", "\x00", "\x00\x00", strings.Repeat("\x00", api.MaxWord), "\x00\x01", "\x00\xff", "\x01", "\x01\x00", "\x01\x01", "\x02\x01", "\x04",
		"a", "a\x00", "a\x00\x01", "a\x00a", "a\x00\xff", "a\x01", "ab", "a\xff", "b", "\xc3", "é", "\xff", "\xff\x00", "\xff\x01", "\xff\xff", strings.Repeat("\xff", api.MaxWord),
	} {
		l = append(l, word(s))
	}
	return l
}

// edgeTuples are the tuples of up to two of the edge values, and some of up to MaxTuple.
func edgeTuples() [][]api.Value {
	vs := edgeValues()
	l := [][]api.Value{{}}
	for _, v := range vs {
		l = append(l, tuple(v))
		for _, w := range vs {
			l = append(l, tuple(v, w))
		}
	}
	for n := 3; n <= api.MaxTuple; n++ {
		var a, b []api.Value
		for i := range n {
			a = append(a, vs[(i*7)%len(vs)])
			b = append(b, vs[len(vs)-1])
		}
		l = append(l, a, b)
	}
	return l
}

// edgeStamps are the stamps of the least and the greatest parts and of some between.
func edgeStamps() []api.Stamp {
	var l []api.Stamp
	for _, w := range []int64{0, 1, 255, 256, 1 << 32, api.MaxWall - 1, api.MaxWall} {
		for _, c := range []int32{0, 1, 256, api.MaxLogic - 1, api.MaxLogic} {
			for _, g := range []int32{0, 1, 256, api.MaxTag - 1, api.MaxTag} {
				l = append(l, api.Stamp{Wall: w, Logic: c, Tag: g})
			}
		}
	}
	return l
}

// texts are all texts of up to n bytes out of those that are given.
func texts(n int, bytes ...byte) []string {
	l := []string{""}
	from := 0
	for range n {
		to := len(l)
		for _, s := range l[from:to] {
			for _, c := range bytes {
				l = append(l, s+text(c))
			}
		}
		from = to
	}
	return l
}
