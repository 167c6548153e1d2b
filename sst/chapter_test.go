package sst

import (
	"bytes"
	"slices"
	"testing"

	"stagepost/api"
)

// chapter are the entries of the chapter's examples.
func chapter() []api.Entry {
	return list(api.Entry{Key: "a", Seq: 1, Value: "x"}, api.Entry{Key: "b", Seq: 2, Value: "x"}, api.Entry{Key: "c", Seq: 3, Value: "x"})
}

func TestExamplesOfTheChapter(t *testing.T) {
	b, e := Build(chapter(), 2, 10)
	answers(t, "Build", e, api.OK)
	x, e := Open(b)
	if e != api.OK || x.Len() != 3 || x.Blocks() != 2 || x.Last() != "c" || x.Reads() != 0 {
		t.Fatalf("Open: %d; Len %d, Blocks %d, Last %q, Reads %d", e, x.Len(), x.Blocks(), x.Last(), x.Reads())
	}
	if got, ok, e := x.Get("b", 9); got != chapter()[1] || !ok || e != api.OK || x.Reads() != 1 {
		t.Errorf("Get of b at 9: %v, %v, %d; Reads %d", got, ok, e, x.Reads())
	}
	if got, ok, e := x.Get("b", 1); got != (api.Entry{}) || ok || e != api.OK || x.Reads() != 2 {
		t.Errorf("Get of b at 1: %v, %v, %d; Reads %d", got, ok, e, x.Reads())
	}
	if got, e := x.Scan(api.Span{From: "b", To: "c"}); !slices.Equal(got, chapter()[1:2]) || e != api.OK || x.Reads() != 4 {
		t.Errorf("Scan of {b, c}: %v, %d; Reads %d", got, e, x.Reads())
	}
	for what, b := range map[string][]byte{"no bytes": nil, "Build's without the last byte": b[:len(b)-1]} {
		if x, e := Open(b); x != nil || e != api.ErrCorrupt {
			t.Errorf("Open of %s: %v, %d", what, x, e)
		}
	}
}

// TestBytesOfTheChaptersTable has each record written out.
func TestBytesOfTheChaptersTable(t *testing.T) {
	foot := make([]byte, 24)
	foot[0], foot[8], foot[16] = 47, 64, 3
	filter := filterOf(chapter(), 10)
	if len(filter) != 5 || filter[0] != 7 {
		t.Fatalf("the filter is %v", filter)
	}
	want := slices.Concat(
		framed([]byte{2, 0, 1, 'a', 1, 0, 1, 'x', 0, 1, 'b', 2, 0, 1, 'x'}),
		framed([]byte{1, 0, 1, 'c', 3, 0, 1, 'x'}),
		framed(filter),
		framed([]byte{2, 27, 1, 'b', 2, 20, 1, 'c', 3}),
		framed(foot),
	)
	if got := built(t, chapter(), 2, 10); !bytes.Equal(got, want) {
		t.Errorf("Build: %v; not %v", got, want)
	}
	if len(want) != 47+17+21+36 {
		t.Errorf("%d bytes", len(want))
	}
}
