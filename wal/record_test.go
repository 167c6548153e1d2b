package wal

import (
	"bytes"
	"encoding/binary"
	"math"
	"math/rand/v2"
	"reflect"
	"slices"
	"testing"

	"stagepost/api"
)

// These are the tests of P5.1, of Encode and Decode.

// decodes says that Decode answers what it should.
func decodes(t testing.TB, b []byte) {
	t.Helper()
	want, e := decoded(b)
	got, f := Decode(b)
	if f != e || !reflect.DeepEqual(got, want) {
		t.Fatalf("Decode of %d bytes, %v: %s, %d; not %s, %d", len(b), b[:min(len(b), 40)], brief([]api.Batch{got}), f, brief([]api.Batch{want}), e)
	}
}

// bad says that Decode answers ErrBad, and nothing beside it.
func bad(t testing.TB, what string, b []byte) {
	t.Helper()
	if got, e := Decode(b); e != api.ErrBad || !reflect.DeepEqual(got, api.Batch{}) {
		t.Errorf("Decode of %s: %v, %v", what, got, e)
	}
	decodes(t, b)
}

func TestRecordsOfTheGoodOnes(t *testing.T) {
	for _, b := range good() {
		got, e := Encode(b)
		if e != api.OK || !bytes.Equal(got, plain(b)) {
			t.Fatalf("Encode of %s: %d bytes, %v", brief([]api.Batch{b}), len(got), e)
		}
		back, e := Decode(got)
		if e != api.OK || !reflect.DeepEqual(back, b) {
			t.Fatalf("Decode of Encode of %s: %s, %v", brief([]api.Batch{b}), brief([]api.Batch{back}), e)
		}
	}
}

func TestRecordsThatAreWrittenOut(t *testing.T) {
	for _, x := range []struct {
		b    api.Batch
		want []byte
	}{
		{batch(1, put("a", "1")), []byte{1, 1, 0, 1, 'a', 1, '1'}},
		{batch(1, del("a")), []byte{1, 1, 1, 1, 'a'}},
		{batch(127, put("a", "")), []byte{127, 1, 0, 1, 'a', 0}},
		{batch(128, put("b", "xy"), del("ab")), []byte{128, 1, 2, 0, 1, 'b', 2, 'x', 'y', 1, 2, 'a', 'b'}},
		{batch(1<<30, del("\x00\xff")), []byte{128, 128, 128, 128, 4, 1, 1, 2, 0, 255}},
	} {
		if got, e := Encode(x.b); e != api.OK || !bytes.Equal(got, x.want) {
			t.Errorf("Encode of %v: %v, %v; not %v", x.b, got, e, x.want)
		}
		if got, e := Decode(x.want); e != api.OK || !reflect.DeepEqual(got, x.b) {
			t.Errorf("Decode of %v: %v, %v; not %v", x.want, got, e, x.b)
		}
	}
}

func TestEncodeOfASeqOutOfItsBounds(t *testing.T) {
	for seq, want := range map[int]api.Errno{
		1: api.OK, 2: api.OK, 1<<30 - 1: api.OK, 1 << 30: api.OK,
		0: api.ErrArg, -1: api.ErrArg, math.MinInt: api.ErrArg, 1<<30 + 1: api.ErrArg, 1 << 31: api.ErrArg, math.MaxInt: api.ErrArg,
	} {
		got, e := Encode(simple(seq))
		if e != want || (got == nil) != (want != api.OK) {
			t.Errorf("Encode of the Seq %d: %v, %v; not %v", seq, got, e, want)
		}
	}
}

func TestEncodeTellsChecksError(t *testing.T) {
	odd, twice := list(put("", "")), list(put("a", ""), put("a", ""))
	for _, l := range [][]api.Write{nil, many(65), odd, twice, list(put(long(513), "")), list(put("a", long(4097))), {{Key: "a", Value: "1", Del: true}}} {
		if got, e := Encode(batch(1, l...)); got != nil || e != Check(l) || e == api.OK {
			t.Errorf("Encode of %d writes: %v, %v; not %v", len(l), got, e, Check(l))
		}
		// A Seq out of its bounds comes first.
		for _, seq := range []int{0, 1<<30 + 1} {
			if got, e := Encode(batch(seq, l...)); got != nil || e != api.ErrArg {
				t.Errorf("Encode of %d writes and the Seq %d: %v, %v", len(l), seq, got, e)
			}
		}
	}
}

func TestDecodeOfNoBytes(t *testing.T) {
	bad(t, "no bytes", nil)
	bad(t, "an empty list", []byte{})
}

func TestDecodeOfAByteMoreOrLess(t *testing.T) {
	for _, b := range good() {
		r := plain(b)
		if len(r) > 10000 {
			continue
		}
		for _, c := range []byte{0, 1, 97, 128, 255} {
			bad(t, "a record and a byte", append(slices.Clone(r), c))
			decodes(t, append([]byte{c}, r...)) // some of these are the record of another Seq
		}
		bad(t, "a byte and a record", append([]byte{0}, r...))
		bad(t, "a record twice", append(slices.Clone(r), r...))
		for n := range min(len(r), 300) {
			bad(t, "a first part of a record", r[:n])
			bad(t, "all but the end of a record", r[:len(r)-1-n])
		}
	}
}

func TestDecodeOfNumbersThatAreNotWrittenTheShortestWay(t *testing.T) {
	for what, b := range map[string][]byte{
		"the Seq":            {129, 0, 1, 0, 1, 'a', 1, '1'},
		"a longer Seq":       {129, 128, 0, 1, 0, 1, 'a', 1, '1'},
		"the count":          {1, 129, 0, 0, 1, 'a', 1, '1'},
		"the key's length":   {1, 1, 0, 129, 0, 'a', 1, '1'},
		"the value's length": {1, 1, 0, 1, 'a', 129, 0, '1'},
		"a length of none":   {1, 1, 0, 1, 'a', 128, 0},
		"a put's mark":       {1, 1, 128, 0, 1, 'a', 1, '1'},
		"a delete's mark":    {1, 1, 129, 0, 1, 'a'},
		"a delete's key":     {1, 1, 1, 129, 0, 'a'},
	} {
		bad(t, what, b)
	}
}

func TestDecodeOfMarks(t *testing.T) {
	for mark := range 256 {
		put := []byte{1, 1, byte(mark), 1, 'a', 1, '1'}
		del := []byte{1, 1, byte(mark), 1, 'a'}
		if mark == 0 {
			decodes(t, put)
			bad(t, "a delete with the mark 0", del)
			continue
		}
		bad(t, "a put with another mark", put)
		if mark > 1 {
			bad(t, "a delete with another mark", del)
		}
	}
}

func TestDecodeOfBatchesThatMayNotBe(t *testing.T) {
	for what, b := range map[string]api.Batch{
		"the Seq 0":             simple(0),
		"the Seq 2^30 and 1":    simple(1<<30 + 1),
		"the Seq 2^32 and 1":    simple(1<<32 + 1),
		"the greatest Seq":      simple(-1),
		"no writes":             batch(1),
		"65 writes":             batch(1, many(65)...),
		"1000 writes":           batch(1, many(1000)...),
		"an empty key":          batch(1, put("", "v")),
		"an empty key deleted":  batch(1, del("")),
		"a key of 513 bytes":    batch(1, put(long(513), "v")),
		"one of 513 deleted":    batch(1, del(long(513))),
		"a value of 4097 bytes": batch(1, put("k", long(4097))),
		"two puts of a key":     batch(1, put("a", "1"), put("a", "2")),
		"a put and a delete":    batch(1, put("a", "1"), del("a")),
		"two deletes":           batch(1, del("a"), put("b", ""), del("a")),
	} {
		bad(t, what, plain(b))
	}
}

// TestDecodeOfLengthsThatLie has numbers that tell more bytes, or more writes, than there are.
func TestDecodeOfLengthsThatLie(t *testing.T) {
	for _, n := range []uint64{2, 3, 64, 65, 127, 128, 512, 4096, 1 << 20, 1 << 31, 1 << 62, 1 << 63, math.MaxUint64} {
		x := binary.AppendUvarint(nil, n)
		bad(t, "more writes than there are", slices.Concat([]byte{1}, x, []byte{0, 1, 'a', 1, '1'}))
		bad(t, "a longer key than there is", slices.Concat([]byte{1, 1, 1}, x, []byte{'a'}))
		bad(t, "a longer value than there is", slices.Concat([]byte{1, 1, 0, 1, 'a'}, x, []byte{'1'}))
	}
}

// TestDecodeOfTurnedBytes changes each byte of a record into each other one: a few of these are records of other batches.
func TestDecodeOfTurnedBytes(t *testing.T) {
	r := plain(batch(3, put("ab", "12"), del("c"), put("d", "")))
	batches := 0
	for i := range r {
		for c := range 256 {
			b := slices.Clone(r)
			b[i] = byte(c)
			decodes(t, b)
			if _, e := Decode(b); e == api.OK {
				batches++
			}
		}
	}
	if batches < 1000 || batches > 256*len(r)/2 {
		t.Errorf("%d of %d are batches", batches, 256*len(r))
	}
}

func TestDecodeOfAnyBytes(t *testing.T) {
	r := rand.New(rand.NewPCG(5, 1))
	found := 0
	for range 300000 {
		b := make([]byte, r.IntN(14))
		for i := range b {
			b[i] = byte(r.IntN(4))
		}
		decodes(t, b)
		if _, e := Decode(b); e == api.OK {
			found++
			if again, e := Encode(guess(b)); e != api.OK || !bytes.Equal(again, b) {
				t.Fatalf("Encode of what %v is: %v, %v", b, again, e)
			}
		}
	}
	if found < 500 {
		t.Errorf("just %d were records", found)
	}
}

func FuzzDecode(f *testing.F) {
	for _, b := range good() {
		if r := plain(b); len(r) < 10000 {
			f.Add(r)
		}
	}
	f.Fuzz(func(t *testing.T, b []byte) {
		decodes(t, b)
		if got, e := Decode(b); e == api.OK {
			if again, e := Encode(got); e != api.OK || !bytes.Equal(again, b) {
				t.Fatalf("Encode of Decode of %v: %v, %v", b, again, e)
			}
		}
	})
}
