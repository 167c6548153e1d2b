package enc

import (
	"cmp"
	"slices"
	"strings"
	"testing"

	"stagepost/api"
)

// These are the tests of P1.6, and of the rule that a decoder is total.

func TestReadOfAppendGivesTheNumberBack(t *testing.T) {
	for _, x := range numbers() {
		if y, n, e := Read(Append(nil, x)); y != x || n != len(Append(nil, x)) || e != api.OK {
			t.Errorf("Read of Append of %d: %d, %d, %v", x, y, n, e)
		}
	}
}

func TestValuesOfTupleGivesTheTupleBack(t *testing.T) {
	for _, l := range edgeTuples() {
		if got, e := Values(mustTuple(t, l)); !slices.Equal(got, l) || e != api.OK {
			t.Errorf("Values of Tuple of %v: %v, %v", l, got, e)
		}
	}
}

func TestUnstampOfStampGivesTheStampBack(t *testing.T) {
	for _, at := range edgeStamps() {
		if got, e := Unstamp(mustStamp(t, at)); got != at || e != api.OK {
			t.Errorf("Unstamp of Stamp of %v: %v, %v", at, got, e)
		}
	}
}

func TestTextsOfTuplesAreInTheOrderOfTheTuples(t *testing.T) {
	all := edgeTuples()
	said := make([]string, len(all))
	for i, l := range all {
		said[i] = mustTuple(t, l)
	}
	for i, a := range all {
		for j, b := range all {
			if want, got := Compare(a, b), strings.Compare(said[i], said[j]); got != want {
				t.Fatalf("%v and %v: Compare says %d, their texts %d", a, b, want, got)
			}
		}
	}
}

// TestEdgeValuesRise sees to it that the order which the tests above rely upon is not Compare's alone.
func TestEdgeValuesRise(t *testing.T) {
	vs := edgeValues()
	for i, v := range vs {
		for j, w := range vs {
			if got := Compare(tuple(v), tuple(w)); got != cmp.Compare(i, j) {
				t.Errorf("Compare of %v and %v: %d", v, w, got)
			}
		}
	}
}

func TestBeginsHasTheTupleAndWhatIsLonger(t *testing.T) {
	all := edgeTuples()
	for _, l := range all {
		span, e := Begins(l)
		if e != api.OK {
			t.Fatalf("Begins of %v: %v", l, e)
		}
		for _, k := range all {
			want := len(k) >= len(l) && slices.Equal(k[:len(l)], l)
			if got := In(mustTuple(t, k), span); got != want {
				t.Fatalf("%v in Begins of %v: %v", k, l, got)
			}
		}
	}
}

func TestAfterPartsWhatBeginsSoFromAllElse(t *testing.T) {
	universe := texts(4, 0, 1, 97, 98, 254, 255)
	for _, s := range texts(3, 0, 1, 97, 98, 254, 255) {
		span := api.Span{From: s, To: After(s)}
		for _, k := range universe {
			if got := In(k, span); got != strings.HasPrefix(k, s) {
				t.Fatalf("%q in {%q, %q}: %v", k, span.From, span.To, got)
			}
		}
	}
}

func TestALaterStampsTextIsAhead(t *testing.T) {
	all := edgeStamps()
	for _, a := range all {
		for _, b := range all {
			if got := mustStamp(t, a) < mustStamp(t, b); got != Later(a, b) {
				t.Fatalf("%v and %v: Later says %v, their texts %v", a, b, Later(a, b), got)
			}
		}
	}
}

func FuzzRead(f *testing.F) {
	for _, x := range numbers() {
		f.Add(Append(nil, x), 5)
	}
	for _, b := range bad() {
		f.Add(b, 300)
	}
	f.Fuzz(func(t *testing.T, b []byte, most int) {
		x, n, e := Read(b)
		switch {
		case e == api.OK:
			if n < 1 || n > len(b) || string(Append(nil, x)) != string(b[:n]) {
				t.Errorf("Read of %v: %d, %d", b, x, n)
			}
		case e != api.ErrBad || x != 0 || n != 0:
			t.Errorf("Read of %v: %d, %d, %v", b, x, n, e)
		}
		y, m, small := Small(b, most)
		fits := e == api.OK && most >= 0 && x <= uint64(most)
		if fits && (uint64(y) != x || m != n || small != api.OK) || !fits && (y != 0 || m != 0 || small != api.ErrBad) {
			t.Errorf("Small of %v up to %d: %d, %d, %v", b, most, y, m, small)
		}
	})
}

func FuzzValues(f *testing.F) {
	for _, l := range edgeTuples() {
		s, _ := Tuple(l)
		f.Add(s)
		f.Add(s + "\x00")
	}
	f.Fuzz(func(t *testing.T, s string) {
		l, e := Values(s)
		switch {
		case e == api.OK:
			if back, e := Tuple(l); back != s || e != api.OK {
				t.Errorf("Tuple of Values of %q: %q, %v", s, back, e)
			}
		case e != api.ErrBad || len(l) != 0:
			t.Errorf("Values of %q: %v, %v", s, l, e)
		}
	})
}

func FuzzUnstamp(f *testing.F) {
	for _, at := range edgeStamps() {
		s, _ := Stamp(at)
		f.Add(s)
		f.Add("\x80" + s[1:])
	}
	f.Fuzz(func(t *testing.T, s string) {
		at, e := Unstamp(s)
		switch {
		case e == api.OK:
			if back, e := Stamp(at); back != s || e != api.OK {
				t.Errorf("Stamp of Unstamp of %q: %q, %v", s, back, e)
			}
		case e != api.ErrBad || at != (api.Stamp{}):
			t.Errorf("Unstamp of %q: %v, %v", s, at, e)
		}
	})
}
