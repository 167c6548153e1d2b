package sst

import (
	"bytes"
	"fmt"
	"math"
	"slices"
	"testing"

	"stagepost/api"
)

// These are the tests of P9.1.

// refuses says that Build answers this error, and nothing beside it.
func refuses(t testing.TB, what string, l []api.Entry, per, bits int, want api.Errno) {
	t.Helper()
	if b, e := Build(l, per, bits); b != nil || e != want {
		t.Errorf("Build of %s, per %d, bits %d: %d bytes, %d; not %d", what, per, bits, len(b), e, want)
	}
}

// builds says that Build answers the bytes that the chapters' words make of these entries.
func builds(t testing.TB, what string, l []api.Entry, per, bits int) {
	t.Helper()
	b, e := Build(l, per, bits)
	if want := rawOf(l, per, bits).bytes(); e != api.OK || !bytes.Equal(b, want) {
		t.Errorf("Build of %s, per %d, bits %d: %d bytes, %d; not as the %d that are right", what, per, bits, len(b), e, len(want))
	}
}

func TestBytesOfTables(t *testing.T) {
	for what, l := range samples() {
		for _, x := range shapes() {
			builds(t, what, l, x[0], x[1])
		}
	}
	for _, n := range []int{64, 65, 128, 129, 200, 1000} {
		for _, x := range shapes() {
			builds(t, fmt.Sprint(n, " keys"), row(n), x[0], x[1])
		}
	}
	builds(t, "many of few keys", crowd(300, 3), 20, 10)
}

// TestShapes has each number of bits with each number of entries a block, also those that may not be.
func TestShapes(t *testing.T) {
	l := row(66)
	for _, per := range []int{math.MinInt, -64, -1, 0, 1, 2, 63, 64, 65, 66, 128, 1 << 32, math.MaxInt} {
		for _, bits := range []int{math.MinInt, -16, -1, 0, 1, 2, 15, 16, 17, 18, 32, 1 << 32, math.MaxInt} {
			if per >= 1 && per <= 64 && bits >= 1 && bits <= 16 {
				builds(t, "66 keys", l, per, bits)
			} else {
				refuses(t, "66 keys", l, per, bits, api.ErrArg)
			}
		}
	}
	for per := 1; per <= 64; per++ {
		builds(t, "66 keys", l, per, 10)
	}
	for bits := 1; bits <= 16; bits++ {
		builds(t, "66 keys", l, 10, bits)
	}
}

// TestHowManyBlocks: as many entries as a block has, one fewer, one more; the last block has what is left.
func TestHowManyBlocks(t *testing.T) {
	for _, per := range []int{1, 2, 3, 8, 63, 64} {
		for n, want := range map[int]int{1: 1, per: 1, per + 1: 2, 2 * per: 2, 2*per + 1: 3, 3*per - min(1, per-1): 3} {
			builds(t, fmt.Sprint(n, " keys"), row(n), per, 10)
			x := table(t, row(n), per, 10)
			if x.Blocks() != want || x.Len() != n {
				t.Errorf("%d entries, %d a block: %d blocks, %d entries; not %d, %d", n, per, x.Blocks(), x.Len(), want, n)
			}
			// Each block but the last one has per entries, so that the index says the last of these.
			for i, p := range x.parts {
				if key := row(n)[min((i+1)*per, n)-1].Key; p.last.Key != key {
					t.Errorf("%d entries, %d a block: the block %d ends with %s, not with %s", n, per, i, p.last.Key, key)
				}
			}
		}
	}
}

func TestNoEntries(t *testing.T) {
	for _, x := range append(shapes(), [2]int{0, 10}, [2]int{1, 0}, [2]int{65, 17}) {
		refuses(t, "no entries", nil, x[0], x[1], api.ErrArg)
		refuses(t, "an empty list", []api.Entry{}, x[0], x[1], api.ErrArg)
	}
}

func TestAsManyAsThereMayBe(t *testing.T) {
	l := deletes(65536)
	for _, x := range [][2]int{{64, 16}, {64, 1}, {63, 10}, {1, 1}, {1, 16}} {
		builds(t, "65,536 entries", l, x[0], x[1])
	}
	for _, x := range [][2]int{{64, 10}, {1, 1}, {64, 16}} {
		refuses(t, "65,537 entries", deletes(65537), x[0], x[1], api.ErrLong)
	}
	refuses(t, "70,000 entries", deletes(70000), 64, 10, api.ErrLong)
}

// wrong are entries that may not be.
func wrong() []api.Entry {
	return list(
		api.Entry{}, put("", 1), put("k", 0), put("k", -1), put("k", 1<<30+1), put("k", math.MaxInt), put("k", math.MinInt), put(long(513), 1),
		api.Entry{Key: "k", Value: long(4097), Seq: 1}, api.Entry{Key: "k", Value: "v", Seq: 1, Del: true}, del("k", 0), del("", 1), del(long(600), 1),
	)
}

func TestEntriesThatMayNotBe(t *testing.T) {
	for _, e := range wrong() {
		for _, per := range []int{1, 2, 64} {
			refuses(t, brief(list(e)), list(e), per, 10, api.ErrArg)
			for _, place := range []int{0, 1, 2, 8, 63, 64, 65, 129} {
				l := row(130)
				l[place] = e
				refuses(t, fmt.Sprint(brief(list(e)), " at the place ", place), l, per, 10, api.ErrArg)
			}
		}
	}
	// The greatest that may be.
	builds(t, "the greatest", list(api.Entry{Key: long(511), Value: long(4096), Seq: 1 << 30}, api.Entry{Key: long(512), Value: long(4096), Seq: 1 << 30}, del(long(512), 1)), 2, 16)
}

func TestEntriesOutOfOrder(t *testing.T) {
	for what, l := range map[string][]api.Entry{
		"rising Seqs":        list(put("a", 1), put("a", 2)),
		"one Seq":            list(put("a", 1), put("a", 1)),
		"a put and a delete": list(put("a", 1), del("a", 1)),
		"a delete and a put": list(del("a", 1), put("a", 1)),
		"falling keys":       list(put("b", 1), put("a", 1)),
		"a beginning behind": list(put("ab", 1), put("a", 1)),
		"falling bytes":      list(put("\xff", 1), put("\x7f", 1)),
	} {
		for _, per := range []int{1, 2, 3, 64} {
			refuses(t, what, l, per, 10, api.ErrOrder)
		}
	}
	// Two that changed places, within a block and at the seam of two blocks.
	for _, place := range []int{1, 2, 3, 4, 8, 63, 64, 65, 128, 129} {
		for _, per := range []int{1, 2, 3, 64} {
			l := row(130)
			l[place], l[place-1] = l[place-1], l[place]
			refuses(t, fmt.Sprint("an exchange at ", place), l, per, 10, api.ErrOrder)
			l = row(130)
			l[place] = l[place-1]
			refuses(t, fmt.Sprint("one twice at ", place), l, per, 10, api.ErrOrder)
		}
	}
}

// indexed are entries whose index, with one of them a block, has n bytes: near 2^20.
func indexed(t testing.TB, n int) []api.Entry {
	t.Helper()
	var l []api.Entry
	for range 2028 {
		l = append(l, del(fmt.Sprintf("%0512d", len(l)), 1))
	}
	// Each of these has 517 bytes there, and the number of all 2; the last one has 3 more than its key.
	l = append(l, del(long(n-2-517*2028-3), 1))
	if got := len(rawOf(l, 1, 1).index); got != n {
		t.Fatalf("the index has %d bytes, not %d", got, n)
	}
	return l
}

func TestIndexOfTheGreatestLength(t *testing.T) {
	builds(t, "an index of 2^20 - 1 bytes", indexed(t, 1<<20-1), 1, 10)
	builds(t, "an index of 2^20 bytes", indexed(t, 1<<20), 1, 10)
	refuses(t, "an index of 2^20 + 1 bytes", indexed(t, 1<<20+1), 1, 10, api.ErrLong)
	refuses(t, "an index of 2^20 + 9 bytes", indexed(t, 1<<20+9), 1, 10, api.ErrLong)
	// It is the index that is too long: with two entries a block it has half as many bytes.
	builds(t, "the half of an index", indexed(t, 1<<20+1), 2, 10)
	var all []api.Entry
	for i := range 65536 {
		all = append(all, del(fmt.Sprintf("%016x", i), 1))
	}
	refuses(t, "65,536 keys of 16 bytes", all, 1, 10, api.ErrLong)
	if b, e := Build(all, 2, 10); e != api.OK || len(b) < 1<<20 {
		t.Errorf("Build of 65,536 keys of 16 bytes, two a block: %d bytes, %d", len(b), e)
	}
}

// TestFilterOfTheGreatestLength: with 65,536 entries and 16 bits a key a filter has 131,073 bytes, so that none is ever too long.
func TestFilterOfTheGreatestLength(t *testing.T) {
	b := built(t, deletes(65536), 64, 16)
	at := frames(t, b)
	filter := at[len(at)-3] - at[len(at)-4]
	if filter != 131073+12 {
		t.Errorf("the filter's frame has %d bytes", filter)
	}
}

// TestFilterCountsEachEntry: a key with several versions is counted as often, so that the filter is as long as of so many keys.
func TestFilterCountsEachEntry(t *testing.T) {
	b := built(t, versions("k", 100), 64, 10)
	at := frames(t, b)
	if n := at[3] - at[2]; n != 12+1+125 {
		t.Errorf("the filter's frame has %d bytes", n)
	}
}

// TestOrderOfBuildsErrors has what would be refused for several reasons: the first that the chapter names is told.
func TestOrderOfBuildsErrors(t *testing.T) {
	many := deletes(65537)
	manyWrong, manyTurned := slices.Clone(many), slices.Clone(many)
	manyWrong[3] = api.Entry{}
	slices.Reverse(manyTurned)
	wrongBehind := list(put("b", 1), put("a", 1), put("c", 0))
	wrongAhead := list(put("c", 0), put("b", 1), put("a", 1))
	tooLong := indexed(t, 1<<20+1)
	tooLongWrong, tooLongTurned := append(slices.Clone(tooLong), put("y", 0)), append(slices.Clone(tooLong), put("a", 1))
	for _, x := range []struct {
		what      string
		l         []api.Entry
		per, bits int
		want      api.Errno
	}{
		{"too many, per 0", many, 0, 10, api.ErrArg},
		{"too many, per 65", many, 65, 10, api.ErrArg},
		{"too many, bits 0", many, 64, 0, api.ErrArg},
		{"too many, bits 17", many, 64, 17, api.ErrArg},
		{"too many, one of them wrong", manyWrong, 64, 10, api.ErrLong},
		{"too many, out of order", manyTurned, 64, 10, api.ErrLong},
		{"too many, with too long an index", append(slices.Clone(many), tooLong...), 1, 10, api.ErrLong},
		{"out of order, per 0", list(put("b", 1), put("a", 1)), 0, 10, api.ErrArg},
		{"out of order, bits 17", list(put("b", 1), put("a", 1)), 1, 17, api.ErrArg},
		{"a wrong one behind two out of order", wrongBehind, 1, 10, api.ErrArg},
		{"a wrong one behind two out of order, in one block", wrongBehind, 64, 10, api.ErrArg},
		{"a wrong one in a later block", wrongBehind, 2, 10, api.ErrArg},
		{"a wrong one ahead of two out of order", wrongAhead, 1, 10, api.ErrArg},
		{"too long an index, per 0", tooLong, 0, 10, api.ErrArg},
		{"too long an index, bits 0", tooLong, 1, 0, api.ErrArg},
		{"too long an index, a wrong one behind", tooLongWrong, 1, 10, api.ErrArg},
		{"too long an index, out of order at its end", tooLongTurned, 1, 10, api.ErrOrder},
		{"too long an index", tooLong, 1, 10, api.ErrLong},
	} {
		refuses(t, x.what, x.l, x.per, x.bits, x.want)
	}
}
