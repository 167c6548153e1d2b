package sst

import (
	"math"
	"slices"
	"testing"

	"stagepost/api"
)

// These are the tests of rule 5 (no table), and of rule 3 (an error changes nothing but how many blocks were read).

// nothing says that each method answers as of no table.
func nothing(t *testing.T, what string, x *Table) {
	t.Helper()
	for _, key := range []string{"", "a", "b", long(600)} {
		for _, seq := range []int{math.MinInt, -1, 0, 1, 9, 1 << 30, math.MaxInt} {
			if e, ok, fault := x.Get(key, seq); e != (api.Entry{}) || ok || fault != api.ErrNil {
				t.Errorf("%s: Get(%q, %d): %v, %v, %d", what, key, seq, e, ok, fault)
			}
		}
		for _, s := range []api.Span{{}, {From: key}, {To: key}, {From: key, To: key + "\x00"}, {From: "b", To: "a"}} {
			if l, fault := x.Scan(s); l != nil || fault != api.ErrNil {
				t.Errorf("%s: Scan(%q): %v, %d", what, s, l, fault)
			}
		}
	}
	if l, fault := x.All(); l != nil || fault != api.ErrNil {
		t.Errorf("%s: All: %v, %d", what, l, fault)
	}
	if x.Len() != 0 || x.Blocks() != 0 || x.Last() != "" || x.Reads() != 0 {
		t.Errorf("%s: Len %d, Blocks %d, Last %q, Reads %d", what, x.Len(), x.Blocks(), x.Last(), x.Reads())
	}
}

func TestNoTable(t *testing.T) {
	var none Table
	refused, _ := Open(nil)
	for what, x := range map[string]*Table{"nil": nil, "one that nobody made": {}, "a variable": &none, "a new one": new(Table), "one that was refused": refused} {
		nothing(t, what, x)
		// It doesn't become one by being asked.
		nothing(t, what+", again", x)
	}
}

// TestCopiesAreNoTables: Open answered the one that was copied, not the copy; what is tried there is not seen in the other.
func TestCopiesAreNoTables(t *testing.T) {
	x := table(t, row(9), 2, 10)
	m := modelled(row(9), 2, 10)
	other := *x
	nothing(t, "a copy", &other)
	same(t, x, m)
	later := *x
	nothing(t, "a copy of one that was asked", &later)
	same(t, x, m)
}

// TestMethodsAsValues: what is bound to a table stays bound to it.
func TestMethodsAsValues(t *testing.T) {
	x := table(t, row(9), 2, 10)
	get, reads := x.Get, x.Reads
	x = nil
	if e, ok, fault := get("k00003", 9); e != row(9)[3] || !ok || fault != api.OK || reads() != 1 {
		t.Errorf("Get: %s, %v, %d; Reads %d", brief(list(e)), ok, fault, reads())
	}
	nothing(t, "nil", x)
}

// TestRefusedCallsChangeNothing: behind an ErrCorrupt all is as it was, but Reads.
func TestRefusedCallsChangeNothing(t *testing.T) {
	l := slices.Concat(three()...)
	for block := range 3 {
		b := built(t, l, 2, 10)
		at := frames(t, b)
		b[at[block]+9] ^= 2
		x, m := sound(t, "an altered block", b)
		for range 3 {
			for range 5 {
				if got, e := x.All(); got != nil || e != api.ErrCorrupt {
					t.Fatalf("All: %s, %d", brief(got), e)
				}
				m.Scan(api.Span{})
			}
			same(t, x, m)
		}
	}
}

// TestRefusedOpensChangeNothing: neither what was handed in, nor other tables.
func TestRefusedOpensChangeNothing(t *testing.T) {
	b := built(t, row(9), 2, 10)
	x := open(t, b)
	for n := range b {
		if y, e := Open(b[:n]); y != nil || e != api.ErrCorrupt {
			t.Fatalf("Open of %d bytes: %v, %d", n, y != nil, e)
		}
	}
	same(t, x, modelled(row(9), 2, 10))
	same(t, open(t, b), modelled(row(9), 2, 10))
}

// TestTablesDoNotShare: of two tables over the same bytes each counts, and answers, for itself.
func TestTablesDoNotShare(t *testing.T) {
	b := built(t, row(9), 2, 10)
	x, y := open(t, b), open(t, b)
	same(t, x, modelled(row(9), 2, 10))
	if x == y || y.Reads() != 0 {
		t.Errorf("the other one has %d reads", y.Reads())
	}
	same(t, y, modelled(row(9), 2, 10))
}
