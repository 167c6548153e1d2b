package block

import (
	"math"
	"slices"
	"testing"

	"stagepost/api"
	"stagepost/mem"
)

// These are the tests of P7.1, of Check.

// checks says that Check answers so, and Encode with it.
func checks(t testing.TB, what string, l []api.Entry, want api.Errno) {
	t.Helper()
	answers(t, "Check of "+what, Check(l), want)
	b, e := Encode(l)
	answers(t, "Encode of "+what, e, want)
	if (b == nil) != (want != api.OK) {
		t.Errorf("Encode of %s: %v beside %d", what, b, want)
	}
	if model := checked(l); model != want {
		t.Errorf("the model of Check of %s: %d, not %d", what, model, want)
	}
}

// wrong are entries that may not be, with a key from k on.
func wrong() []api.Entry {
	return list(
		api.Entry{}, put("", 1), del("", 1), put("k", 0), put("k", -1), put("k", math.MinInt), put("k", 1<<30+1), put("k", 1<<32+1), put("k", math.MaxInt), del("k", 0), del("k", 1<<30+1),
		put("k"+long(512), 1), del("k"+long(512), 1), api.Entry{Key: "k", Value: long(4097), Seq: 1}, api.Entry{Key: "k", Value: "v", Seq: 1, Del: true},
	)
}

func TestCheckOfCounts(t *testing.T) {
	checks(t, "none", nil, api.ErrArg)
	checks(t, "an empty list", list(), api.ErrArg)
	checks(t, "an empty list with room", make([]api.Entry, 0, 4), api.ErrArg)
	for n := 1; n <= 64; n++ {
		checks(t, "some", row(n), api.OK)
	}
	for _, n := range []int{65, 66, 128, 1000} {
		checks(t, "too many", row(n), api.ErrLong)
	}
}

func TestCheckOfOneEntry(t *testing.T) {
	for _, e := range list(
		put("k", 1), put("k", 2), put("k", 1<<30-1), put("k", 1<<30), put(long(511), 1), put(long(512), 1), del("k", 1), del("k", 1<<30), del(long(512), 1),
		api.Entry{Key: "k", Seq: 1}, api.Entry{Key: "k", Value: long(4095), Seq: 1}, api.Entry{Key: long(512), Value: long(4096), Seq: 1 << 30}, put("\x00", 1), put("\xff\xff", 1),
	) {
		checks(t, brief(list(e)), list(e), api.OK)
		answers(t, "mem.Check", mem.Check(e), api.OK)
	}
	for _, e := range wrong() {
		checks(t, brief(list(e)), list(e), api.ErrArg)
		answers(t, "mem.Check", mem.Check(e), api.ErrArg)
	}
}

// TestCheckOfOneAmongOthers has one that may not be at each place.
func TestCheckOfOneAmongOthers(t *testing.T) {
	for _, n := range []int{2, 8, 9, 64} {
		for place := range n {
			for _, e := range wrong() {
				l := row(n)
				l[place] = e
				checks(t, "one that may not be", l, api.ErrArg)
			}
		}
	}
}

func TestCheckOfTheOrder(t *testing.T) {
	for what, l := range map[string][]api.Entry{
		"rising Seqs":                list(put("a", 1), put("a", 2)),
		"one Seq":                    list(put("a", 1), put("a", 1)),
		"one Seq with other values":  list(put("a", 1), api.Entry{Key: "a", Value: "other", Seq: 1}),
		"one Seq, a put, a delete":   list(put("a", 1), del("a", 1)),
		"one Seq, a delete, a put":   list(del("a", 1), put("a", 1)),
		"falling keys":               list(put("b", 1), put("a", 1)),
		"falling keys, rising Seqs":  list(put("b", 1), put("a", 2)),
		"falling keys, falling Seqs": list(put("b", 2), put("a", 1)),
		"a beginning behind":         list(put("ab", 1), put("a", 1)),
		"high bytes ahead":           list(put("\x80", 1), put("\x7f", 1)),
		"the last two":               list(put("a", 1), put("b", 2), put("b", 1), put("b", 3)),
		"the first two":              list(put("b", 1), put("a", 1), put("c", 1), put("d", 1)),
		"the first and the last":     list(put("b", 1), put("c", 1), put("a", 1)),
	} {
		checks(t, what, l, api.ErrOrder)
	}
	for what, l := range map[string][]api.Entry{
		"falling Seqs":             list(put("a", 2), put("a", 1)),
		"falling Seqs of deletes":  list(del("a", 1<<30), del("a", 2), del("a", 1)),
		"rising keys, rising Seqs": list(put("a", 1), put("b", 2)),
		"one Seq of two keys":      list(put("a", 1), put("b", 1)),
		"a beginning ahead":        list(put("a", 1), put("a\x00", 9), put("aa", 3)),
		"high bytes behind":        list(put("\x7f", 1), put("\x80", 1), put("\xff", 1)),
		"all kinds":                various(),
	} {
		checks(t, what, l, api.OK)
	}
}

// TestCheckOfTheOrderAtEachPlace has two neighbours that are alike, or change places.
func TestCheckOfTheOrderAtEachPlace(t *testing.T) {
	for _, n := range []int{2, 8, 9, 64} {
		for place := 1; place < n; place++ {
			l := row(n)
			l[place] = l[place-1]
			checks(t, "two that are alike", l, api.ErrOrder)
			l = row(n)
			l[place], l[place-1] = l[place-1], l[place]
			checks(t, "two that changed places", l, api.ErrOrder)
		}
	}
}

// TestCheckTellsTheFirstError: how many there are, then what may not be, then the order (rule 1).
func TestCheckTellsTheFirstError(t *testing.T) {
	turned := row(64)
	slices.Reverse(turned)
	checks(t, "too many, in no order", append(slices.Clone(turned), row(1)...), api.ErrLong)
	checks(t, "too many, one may not be", append(row(64), api.Entry{}), api.ErrLong)
	checks(t, "too many, one may not be, in no order", append(list(api.Entry{}), turned...), api.ErrLong)
	for place := range 64 {
		l := slices.Clone(turned)
		l[place].Seq = 0
		checks(t, "in no order, one may not be", l, api.ErrArg)
	}
}
