package mem

import (
	"math"
	"slices"
	"testing"

	"stagepost/api"
	"stagepost/wal"
)

// These are the tests of P6.1.

func TestCheckOfSeqs(t *testing.T) {
	for seq, want := range map[int]api.Errno{
		math.MinInt: api.ErrArg, -1 << 30: api.ErrArg, -1: api.ErrArg, 0: api.ErrArg, 1: api.OK, 2: api.OK, 1<<30 - 1: api.OK, 1 << 30: api.OK,
		1<<30 + 1: api.ErrArg, 1 << 32: api.ErrArg, 1<<32 + 1: api.ErrArg, math.MaxInt: api.ErrArg,
	} {
		answers(t, "a put", Check(put("k", seq)), want)
		answers(t, "a delete", Check(del("k", seq)), want)
	}
}

func TestCheckOfKeys(t *testing.T) {
	for n, want := range map[int]api.Errno{0: api.ErrArg, 1: api.OK, 2: api.OK, 511: api.OK, 512: api.OK, 513: api.ErrArg, 5000: api.ErrArg} {
		answers(t, "a put", Check(api.Entry{Key: long(n), Value: "v", Seq: 1}), want)
		answers(t, "a delete", Check(del(long(n), 1)), want)
	}
	for _, key := range []string{"\x00", "\xff", "\x80\x00", " "} {
		answers(t, "a key of odd bytes", Check(put(key, 1)), api.OK)
	}
}

func TestCheckOfValues(t *testing.T) {
	for n, want := range map[int]api.Errno{0: api.OK, 1: api.OK, 4095: api.OK, 4096: api.OK, 4097: api.ErrArg, 1 << 17: api.ErrArg} {
		answers(t, "a put", Check(api.Entry{Key: "k", Value: long(n), Seq: 1}), want)
	}
}

func TestCheckOfDeletes(t *testing.T) {
	answers(t, "a delete", Check(del("k", 1)), api.OK)
	for _, n := range []int{1, 2, 4096, 4097} {
		answers(t, "a delete with a value", Check(api.Entry{Key: "k", Value: long(n), Seq: 1, Del: true}), api.ErrArg)
	}
}

func TestCheckOfNothing(t *testing.T) {
	answers(t, "no entry", Check(api.Entry{}), api.ErrArg)
}

// TestCheckIsThatOfAWrite holds it against the layer below: an entry may be just if its write may be, at a good Seq.
func TestCheckIsThatOfAWrite(t *testing.T) {
	for _, key := range []string{"", "a", "\x00\xff", long(512), long(513)} {
		for _, value := range []string{"", "v", long(4096), long(4097)} {
			for _, gone := range []bool{false, true} {
				want := wal.Check([]api.Write{{Key: key, Value: value, Del: gone}})
				for _, seq := range []int{1, 77, 1 << 30} {
					answers(t, "an entry", Check(api.Entry{Key: key, Value: value, Seq: seq, Del: gone}), want)
				}
				answers(t, "an entry at 0", Check(api.Entry{Key: key, Value: value, Del: gone}), api.ErrArg)
			}
		}
	}
}

// TestAheadByRank holds each of a list that is in order against each other one.
func TestAheadByRank(t *testing.T) {
	l := list(
		put("", math.MaxInt), put("", 0), put("", math.MinInt), put("\x00", 1), put("A", 1), put("a", math.MaxInt), put("a", 1<<30), put("a", 2), put("a", 1), put("a", 0),
		put("a", -1), put("a", math.MinInt), put("a\x00", 1), put("aa", 9), put("ab", 1), put("b", 9), put("b", 8), put(long(600), 1), put("\x7f", 1), put("\x80", 1), put("\xff", 1), put("\xff\x00", 1),
	)
	for i, a := range l {
		for j, b := range l {
			if Ahead(a, b) != (i < j) {
				t.Errorf("Ahead of %s and %s: %v", brief(list(a)), brief(list(b)), i >= j)
			}
		}
	}
}

// TestAheadLooksAtKeyAndSeqAlone: neither the value nor the delete means anything.
func TestAheadLooksAtKeyAndSeqAlone(t *testing.T) {
	one, other := api.Entry{Key: "k", Value: "a", Seq: 3}, api.Entry{Key: "k", Seq: 3, Del: true}
	third := api.Entry{Key: "k", Value: "b", Seq: 3, Del: true}
	for _, a := range list(one, other, third) {
		for _, b := range list(one, other, third) {
			if Ahead(a, b) {
				t.Errorf("%v is ahead of %v", a, b)
			}
		}
	}
	if Ahead(api.Entry{Key: "a", Value: "a", Seq: 1}, api.Entry{Key: "a", Value: "b", Seq: 2}) || !Ahead(api.Entry{Key: "a", Value: "z", Seq: 2}, api.Entry{Key: "a", Value: "b", Seq: 1}) {
		t.Errorf("the value counts")
	}
}

func TestAheadIsAnOrder(t *testing.T) {
	l := various()
	slices.SortFunc(l, func(a, b api.Entry) int {
		if Ahead(a, b) {
			return -1
		}
		return 1
	})
	m := &model{added: various()}
	if want := slices.Collect(m.All()); !slices.Equal(l, want) {
		t.Errorf("put in order: %s; not %s", brief(l), brief(want))
	}
}
