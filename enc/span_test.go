package enc

import (
	"strings"
	"testing"

	"stagepost/api"
)

func TestAfter(t *testing.T) {
	for _, c := range []struct{ s, want string }{
		{"", ""},
		{"a", "b"},
		{"a\xff", "b"},
		{"a\xff\xff", "b"},
		{"\xff", ""},
		{"\xff\xff", ""},
		{strings.Repeat("\xff", 1000), ""},
		{"a" + strings.Repeat("\xff", 1000), "b"},
		{"\x00", "\x01"},
		{"\x00\x00", "\x00\x01"},
		{"\x00\xff", "\x01"},
		{"\xfe", "\xff"},
		{"\xff\xfe", "\xff\xff"},
		{"\xff\x00", "\xff\x01"},
		{"\x7f", "\x80"},
		{"é", "\xc3\xaa"},
		{"a\xffb", "a\xffc"},
		{"a\xffb\xff", "a\xffc"},
	} {
		if got := After(c.s); got != c.want {
			t.Errorf("After of %q: %q, not %q", c.s, got, c.want)
		}
	}
}

func TestBeginsIsFromTheTextToItsAfter(t *testing.T) {
	for _, c := range []struct {
		l    []api.Value
		want api.Span
	}{
		{nil, api.Span{}},
		{[]api.Value{}, api.Span{}},
		{tuple(null()), api.Span{From: "\x01", To: "\x02"}},
		{tuple(truth(1)), api.Span{From: "\x02\x01", To: "\x02\x02"}},
		{tuple(num(-1)), api.Span{From: text(3, 127, 255, 255, 255, 255, 255, 255, 255), To: text(3, 128)}},
		{tuple(num(1<<63 - 1)), api.Span{From: text(3, 255, 255, 255, 255, 255, 255, 255, 255), To: text(4)}},
		{tuple(word("a")), api.Span{From: text(4, 97, 0, 1), To: text(4, 97, 0, 2)}},
		{tuple(word("\xff")), api.Span{From: text(4, 255, 0, 1), To: text(4, 255, 0, 2)}},
	} {
		if got, e := Begins(c.l); got != c.want || e != api.OK {
			t.Errorf("Begins of %v: %q, %v", c.l, got, e)
		}
	}
	for want, ls := range notTuples() {
		for _, l := range ls {
			if s, e := Begins(l); s != (api.Span{}) || e != want {
				t.Errorf("Begins of %v: %q, %v, not %v", l, s, e, want)
			}
		}
	}
}

func TestIn(t *testing.T) {
	for _, c := range []struct {
		key, from, to string
		want          bool
	}{
		{"b", "a", "c", true},
		{"a", "a", "c", true},
		{"", "a", "c", false},
		{"\xff", "a", "c", false},
		{"b\xff", "a", "c", true},
		{"c", "a", "c", false},
		{"c\x00", "a", "c", false},
		{"c", "a", "", true},
		{"a", "a", "", true},
		{"Z", "a", "", false},
		{"", "", "", true},
		{"\xff\xff", "", "", true},
		{"", "", "a", true},
		{"", "a", "", false},
		{"a", "a", "a", false},
		{"b", "c", "a", false},
		{"d", "c", "a", false},
		{"a\x00", "a", "a\x00", false},
		{"a", "a", "a\x00", true},
		{"é", "z", "", true},
		{"\xff", "\xfe", "\xff\x00", true},
	} {
		if got := In(c.key, api.Span{From: c.from, To: c.to}); got != c.want {
			t.Errorf("In of %q and {%q, %q}: %v", c.key, c.from, c.to, got)
		}
	}
}
