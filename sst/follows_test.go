package sst

import (
	"fmt"
	"math"
	"math/rand/v2"
	"slices"
	"testing"

	"stagepost/api"
	"stagepost/block"
	"stagepost/bloom"
	"stagepost/enc"
)

// These are the tests of P9.6: what is told of Build's bytes, by the layers below.

// within are the entries whose key is in the span.
func within(l []api.Entry, s api.Span) []api.Entry {
	return slices.DeleteFunc(slices.Clone(l), func(e api.Entry) bool { return !enc.In(e.Key, s) })
}

// asFound says that Get is block.Find, and reads at most one block: none, if the filter does not have the key.
func asFound(t testing.TB, x *Table, l []api.Entry, filter []byte, key string, seq int) {
	t.Helper()
	was := x.Reads()
	want, there := block.Find(l, key, seq)
	got, ok, e := x.Get(key, seq)
	if got != want || ok != there || e != api.OK {
		t.Fatalf("Get of %s at %d: %s, %v, %d; not %s, %v", short(key), seq, brief(list(got)), ok, e, brief(list(want)), there)
	}
	reads := x.Reads() - was
	if has, _ := bloom.Has(filter, key); reads > 1 || reads > 0 && !has || reads == 0 && there {
		t.Fatalf("Get of %s at %d read %d blocks; the filter has it: %v; it is there: %v", short(key), seq, reads, has, there)
	}
}

// asPicked says that Scan is what of the entries is in the span.
func asPicked(t testing.TB, x *Table, l []api.Entry, s api.Span) {
	t.Helper()
	if got, e := x.Scan(s); !slices.Equal(got, within(l, s)) || e != api.OK {
		t.Fatalf("Scan from %s to %s: %s, %d; not %s", short(s.From), short(s.To), brief(got), e, brief(within(l, s)))
	}
}

func TestTablesAreTheirEntries(t *testing.T) {
	lists := samples()
	for _, n := range []int{1, 2, 63, 64, 65, 130} {
		lists[fmt.Sprint(n, " keys")] = row(n)
		lists[fmt.Sprint(n, " of few keys")] = crowd(n, uint64(n))
		lists[fmt.Sprint(n, " versions")] = versions("key", n)
	}
	r := rand.New(rand.NewPCG(9, 6))
	for what, l := range lists {
		for _, shape := range shapes() {
			x := table(t, l, shape[0], shape[1])
			filter := filterOf(l, shape[1])
			if got, e := x.All(); !slices.Equal(got, l) || e != api.OK {
				t.Fatalf("%s: All: %s, %d", what, brief(got), e)
			}
			asked, at := keys(l), seqs(l)
			for _, key := range asked {
				asFound(t, x, l, filter, key, at[r.IntN(len(at))])
				asFound(t, x, l, filter, key, math.MaxInt)
				asPicked(t, x, l, api.Span{From: key})
				asPicked(t, x, l, api.Span{To: key})
				asPicked(t, x, l, api.Span{From: key, To: asked[r.IntN(len(asked))]})
				asPicked(t, x, l, api.Span{From: key, To: key + "\x00"})
			}
			for _, e := range l {
				asFound(t, x, l, filter, e.Key, e.Seq)
				asFound(t, x, l, filter, e.Key, e.Seq-1)
				asFound(t, x, l, filter, e.Key, e.Seq+1)
			}
		}
	}
}

// TestTheGreatestTables: 65,536 entries, in 1,024 blocks and in as many as there are entries.
func TestTheGreatestTables(t *testing.T) {
	l := deletes(65536)
	for _, shape := range [][2]int{{64, 16}, {1, 10}, {63, 1}} {
		x := table(t, l, shape[0], shape[1])
		filter := filterOf(l, shape[1])
		if x.Len() != 65536 || x.Blocks() != (65535+shape[0])/shape[0] || x.Last() != "ffff" {
			t.Errorf("Len %d, Blocks %d, Last %s", x.Len(), x.Blocks(), x.Last())
		}
		for i := 0; i < len(l); i += 251 {
			asFound(t, x, l, filter, l[i].Key, 1)
			asFound(t, x, l, filter, l[i].Key, 0)
			asFound(t, x, l, filter, l[i].Key+"0", 1)
		}
		asFound(t, x, l, filter, "0000", 1)
		asFound(t, x, l, filter, "ffff", 1)
		asPicked(t, x, l, api.Span{From: "7ff0", To: "8010"})
		was := x.Reads()
		if got, e := x.All(); !slices.Equal(got, l) || e != api.OK || x.Reads() != was+x.Blocks() {
			t.Errorf("All: %s, %d; %d blocks were read", brief(got), e, x.Reads()-was)
		}
	}
}

// TestTheGreatestEntries: blocks of the greatest entries that there are.
func TestTheGreatestEntries(t *testing.T) {
	var l []api.Entry
	for i := range 130 {
		l = append(l, api.Entry{Key: fmt.Sprintf("%0512d", i), Value: long(4096), Seq: 1 << 30})
	}
	x := table(t, l, 64, 16)
	if x.Blocks() != 3 || x.Last() != l[129].Key {
		t.Errorf("Blocks %d, Last %s", x.Blocks(), short(x.Last()))
	}
	if got, e := x.All(); !slices.Equal(got, l) || e != api.OK {
		t.Errorf("All: %s, %d", brief(got), e)
	}
	for i, e := range l {
		asFound(t, x, l, filterOf(l, 16), e.Key, 1<<30-i%2)
	}
}

// TestKeysThatAreNotThereCostFewReads: those that the filter does not have cost none, and these are nearly all.
func TestKeysThatAreNotThereCostFewReads(t *testing.T) {
	l := row(2000)
	for bits, most := range map[int]int{4: 2500, 10: 300, 16: 60} {
		x := table(t, l, 16, bits)
		filter := filterOf(l, bits)
		want := 0
		for i := range 10000 {
			key := fmt.Sprintf("k%05d-%d", i%2000, i)
			if passes(filter, key) && key < x.Last() {
				want++
			}
			if e, ok, fault := x.Get(key, 9); e != (api.Entry{}) || ok || fault != api.OK || x.Reads() != want {
				t.Fatalf("bits %d: Get of %s: %s, %v, %d; Reads %d, not %d", bits, key, brief(list(e)), ok, fault, x.Reads(), want)
			}
		}
		if want > most || want == 0 {
			t.Errorf("bits %d: %d of 10,000 keys that are not there cost a read", bits, want)
		}
	}
}

// TestOpenOfBuildIsTheSameEachTime: what is answered hangs on nothing but what was handed in.
func TestOpenOfBuildIsTheSameEachTime(t *testing.T) {
	for what, l := range samples() {
		one, other := built(t, l, 3, 10), built(t, slices.Clone(l), 3, 10)
		if !slices.Equal(one, other) {
			t.Errorf("%s: two calls of Build answer unlike bytes", what)
		}
		x, y := open(t, one), open(t, other)
		same(t, x, modelled(l, 3, 10))
		same(t, y, modelled(l, 3, 10))
	}
}
