package manifest

import (
	"bytes"
	"encoding/binary"
	"math"
	"math/rand/v2"
	"slices"
	"testing"

	"stagepost/api"
)

// These are the tests of P10.2.

// upTo are the numbers from 1 to n.
func upTo(n int) []int {
	var l []int
	for i := range n {
		l = append(l, i+1)
	}
	return l
}

// goodEdits are edits that have bytes: the edges of each bound, bytes of all kinds, and some that go behind no version.
func goodEdits() map[string]api.Edit {
	const top = 999999
	all := map[string]api.Edit{
		"nothing":                      edit(nil, nil, 1, 0, 1),
		"the greatest numbers":         edit(numbers(top), metas(meta(top, 6, 65536, long(512), long(512))), top, 1<<30, top),
		"the least ones":               edit(numbers(1), metas(meta(1, 0, 1, "\x00", "\x00")), 1, 0, 1),
		"drops":                        edit(numbers(3, 1, 127, 128, 16383, 16384), nil, 2, 3, 4),
		"a drop twice":                 edit(numbers(3, 3), nil, 2, 3, 4),
		"adds":                         edit(nil, sample().Tables, 3, 70, 12),
		"adds in another order":        edit(nil, metas(meta(2, 3, 1, "z", "z"), meta(1, 0, 1, "a", "b")), 3, 70, 12),
		"an add twice":                 edit(nil, metas(meta(2, 3, 1, "z", "z"), meta(2, 3, 1, "z", "z")), 3, 70, 12),
		"adds that share keys":         edit(nil, metas(meta(2, 3, 1, "a", "c"), meta(1, 3, 1, "b", "d")), 3, 70, 12),
		"an add that is dropped":       edit(numbers(5), metas(meta(5, 0, 1, "a", "b")), 3, 70, 12),
		"a Number above Next":          edit(nil, metas(meta(top, 0, 1, "a", "b")), 1, 0, 1),
		"odd bytes":                    edit(numbers(9), metas(meta(1, 0, 1, "\x00\x80\xff", "\xff\x00\x80")), 1, 0, 2),
		"1,024 drops":                  edit(upTo(1024), nil, 1, 0, 1),
		"1,024 adds":                   edit(nil, row(1024, 1, 1, 6), 1, 0, 2000),
		"1,024 of both":                edit(upTo(1024), row(1024, 1, 1, 6), 1, 0, 2000),
		"1,024 adds of the most bytes": edit(upTo(1024), row(1024, 6, top-1024, 512), top, 1<<30, top),
	}
	for _, n := range []int{1, 2, 126, 127, 128, 129, 511, 512} {
		all["keys of some length "+key(n, 3)] = edit(nil, metas(meta(n, 2, n, long(n), long(n)), meta(n, 0, n, long(1), long(n))), n, n, n)
	}
	for k := range 20 {
		n := min(1<<k, top)
		all["powers of two "+key(k, 3)] = edit(numbers(n, n-n/2), metas(meta(n, k%7, min(n, 65536), "a", "b")), n, 1<<k, max(1, n-1))
	}
	return all
}

// decodes says that Decode answers what it should.
func decodes(t testing.TB, b []byte) {
	t.Helper()
	want, e := decoded(b)
	got, fault := Decode(b)
	if fault != e || !sameEdit(got, want) || e != api.OK && !noEdit(got) {
		t.Fatalf("Decode of %d bytes, %v: %s, %d; not %s, %d", len(b), b[:min(len(b), 40)], briefEdit(got), fault, briefEdit(want), e)
	}
}

// bad says that Decode answers ErrBad, and nothing beside it.
func bad(t testing.TB, what string, b []byte) {
	t.Helper()
	if got, e := Decode(b); e != api.ErrBad || !noEdit(got) {
		t.Errorf("Decode of %s: %s, %v", what, briefEdit(got), e)
	}
	decodes(t, b)
}

// encodes says that Encode answers this error, with just the bytes beside OK.
func encodes(t testing.TB, what string, e api.Edit, want api.Errno) {
	t.Helper()
	got, fault := Encode(e)
	if fault != want || fault == api.OK && !bytes.Equal(got, plain(e)) || fault != api.OK && got != nil {
		t.Errorf("Encode of %s: %d bytes, %d; not %d", what, len(got), fault, want)
	}
	if encodable(e) != want {
		t.Errorf("%s: the model says %d", what, encodable(e))
	}
	if want == api.ErrArg {
		bad(t, what, plain(e))
	}
}

func TestBytesOfTheGoodOnes(t *testing.T) {
	for what, e := range goodEdits() {
		encodes(t, what, e, api.OK)
		decodes(t, plain(e))
		if got, fault := Decode(plain(e)); fault != api.OK || !sameEdit(got, e) {
			t.Errorf("Decode of %s: %s, %d", what, briefEdit(got), fault)
		}
	}
}

func TestBytesThatAreWrittenOut(t *testing.T) {
	for _, x := range []struct {
		e    api.Edit
		want []byte
	}{
		{edit(nil, nil, 1, 0, 1), []byte{0, 0, 1, 0, 1}},
		{edit(numbers(7), nil, 1, 0, 1), []byte{1, 7, 0, 1, 0, 1}},
		{edit(nil, metas(meta(1, 0, 3, "a", "c")), 2, 5, 2), []byte{0, 1, 1, 0, 3, 1, 'a', 1, 'c', 2, 5, 2}},
		{edit(numbers(200, 1), metas(meta(300, 6, 128, "ab", "b"), meta(2, 1, 127, "x", "xyz")), 127, 1<<30, 999999),
			[]byte{2, 200, 1, 1, 2, 172, 2, 6, 128, 1, 2, 'a', 'b', 1, 'b', 2, 1, 127, 1, 'x', 3, 'x', 'y', 'z', 127, 128, 128, 128, 128, 4, 191, 132, 61}},
	} {
		if got, e := Encode(x.e); e != api.OK || !bytes.Equal(got, x.want) {
			t.Errorf("Encode of %s: %v, %v; not %v", briefEdit(x.e), got, e, x.want)
		}
		if got, e := Decode(x.want); e != api.OK || !sameEdit(got, x.e) {
			t.Errorf("Decode of %v: %s, %v; not %s", x.want, briefEdit(got), e, briefEdit(x.e))
		}
	}
}

func TestEncodeOfHowMany(t *testing.T) {
	for n, want := range map[int]api.Errno{0: api.OK, 1: api.OK, 1023: api.OK, 1024: api.OK, 1025: api.ErrLong, 5000: api.ErrLong} {
		encodes(t, "drops", edit(upTo(n), nil, 1, 0, 1), want)
		encodes(t, "adds", edit(nil, row(n, 0, 1, 4), 1, 0, 1), want)
		encodes(t, "adds and few drops", edit(upTo(3), row(n, 0, 1, 4), 1, 0, 1), want)
		encodes(t, "drops and few adds", edit(upTo(n), row(3, 0, 1, 4), 1, 0, 1), want)
		encodes(t, "both", edit(upTo(n), row(n, 0, 1, 4), 1, 0, 1), want)
	}
}

func TestEncodeOfNumbers(t *testing.T) {
	for n, want := range edges(1, 999999) {
		encodes(t, "a drop", edit(numbers(n), nil, 1, 0, 1), want)
		encodes(t, "the last drop", edit(numbers(1, 2, n), nil, 1, 0, 1), want)
		encodes(t, "the first drop", edit(numbers(n, 1, 2), nil, 1, 0, 1), want)
		encodes(t, "a Log", edit(nil, nil, n, 0, 1), want)
		encodes(t, "a Next", edit(nil, nil, 1, 0, n), want)
	}
	for n, want := range edges(0, 1<<30) {
		encodes(t, "a Seq", edit(nil, nil, 1, n, 1), want)
	}
	encodes(t, "the zero edit", api.Edit{}, api.ErrArg)
}

// encodesAdd says what Encode answers of an edit with this add, alone and among others.
func encodesAdd(t testing.TB, what string, x api.Meta, want api.Errno) {
	t.Helper()
	other := meta(5, 2, 3, "k", "l")
	for _, l := range [][]api.Meta{{x}, {x, other, other}, {other, other, x}} {
		encodes(t, what, edit(nil, l, 1, 0, 1), want)
		encodes(t, what+" and drops", edit(numbers(1, 2), l, 1, 0, 1), want)
	}
}

func TestEncodeOfATablesWords(t *testing.T) {
	for n, want := range edges(1, 999999) {
		encodesAdd(t, "a Number", meta(n, 1, 1, "a", "b"), want)
	}
	for n, want := range edges(0, 6) {
		encodesAdd(t, "a Level", meta(1, n, 1, "a", "b"), want)
	}
	for n, want := range edges(1, 65536) {
		encodesAdd(t, "a Count", meta(1, 1, n, "a", "b"), want)
	}
	for n, want := range map[int]api.Errno{0: api.ErrArg, 1: api.OK, 2: api.OK, 511: api.OK, 512: api.OK, 513: api.ErrArg, 5000: api.ErrArg} {
		encodesAdd(t, "a First", meta(1, 1, 1, long(n), "y"), want)
		encodesAdd(t, "a Last", meta(1, 1, 1, "\x00", long(n)), want)
		encodesAdd(t, "both", meta(1, 1, 1, long(n), long(n)), want)
	}
	encodesAdd(t, "First the same as Last", meta(1, 1, 1, "b", "b"), api.OK)
	encodesAdd(t, "First above Last", meta(1, 1, 1, "c", "b"), api.ErrArg)
	encodesAdd(t, "First just above Last", meta(1, 1, 1, "b\x00", "b"), api.ErrArg)
	encodesAdd(t, "First just below Last", meta(1, 1, 1, "b", "b\x00"), api.OK)
	encodesAdd(t, "First above Last by a high byte", meta(1, 1, 1, "\x80", "\x7f"), api.ErrArg)
}

// TestEncodeTellsTheFirstError has edits to which both apply (rule 1).
func TestEncodeTellsTheFirstError(t *testing.T) {
	many := append(upTo(1024), 0)
	odd := append(row(1024, 0, 1, 4), api.Meta{})
	for what, e := range map[string]api.Edit{
		"too many drops, one of them odd": edit(many, nil, 1, 0, 1),
		"too many adds, one of them odd":  edit(nil, odd, 1, 0, 1),
		"too many adds, an odd drop":      edit(numbers(0), odd, 1, 0, 1),
		"too many drops, an odd add":      edit(many, metas(api.Meta{}), 1, 0, 1),
		"too many drops, no Log":          edit(upTo(1025), nil, 0, 0, 1),
		"too many adds, no Next":          edit(nil, row(1025, 0, 1, 4), 1, 0, 0),
		"too many of both, all odd":       edit(make([]int, 2000), make([]api.Meta, 2000), -1, -1, -1),
	} {
		encodes(t, what, e, api.ErrLong)
	}
}

func TestDecodeOfNoBytes(t *testing.T) {
	bad(t, "no bytes", nil)
	bad(t, "an empty list", []byte{})
}

func TestDecodeOfAByteMoreOrLess(t *testing.T) {
	for _, e := range goodEdits() {
		b := plain(e)
		if len(b) > 2000 {
			bad(t, "a byte less", b[:len(b)-1])
			bad(t, "a byte more", append(slices.Clone(b), 1))
			continue
		}
		for _, c := range []byte{0, 1, 97, 128, 255} {
			bad(t, "an edit and a byte", append(slices.Clone(b), c))
			decodes(t, append([]byte{c}, b...)) // some of these are the bytes of another edit
		}
		bad(t, "an edit twice", append(slices.Clone(b), b...))
		for n := range b {
			bad(t, "a first part of an edit", b[:n])
			decodes(t, b[n:])
		}
	}
}

func TestDecodeOfNeedlessBytes(t *testing.T) {
	for what, b := range map[string][]byte{
		"how many drops":         {129, 0, 7, 1, 1, 0, 3, 1, 'a', 1, 'c', 2, 5, 2},
		"how many, none":         {128, 0, 1, 1, 0, 3, 1, 'a', 1, 'c', 2, 5, 2},
		"a drop":                 {1, 135, 0, 1, 1, 0, 3, 1, 'a', 1, 'c', 2, 5, 2},
		"how many adds":          {1, 7, 129, 0, 1, 0, 3, 1, 'a', 1, 'c', 2, 5, 2},
		"a Number":               {1, 7, 1, 129, 0, 0, 3, 1, 'a', 1, 'c', 2, 5, 2},
		"a Level":                {1, 7, 1, 1, 128, 0, 3, 1, 'a', 1, 'c', 2, 5, 2},
		"a Count":                {1, 7, 1, 1, 0, 131, 0, 1, 'a', 1, 'c', 2, 5, 2},
		"a First's length":       {1, 7, 1, 1, 0, 3, 129, 0, 'a', 1, 'c', 2, 5, 2},
		"a Last's length":        {1, 7, 1, 1, 0, 3, 1, 'a', 129, 0, 'c', 2, 5, 2},
		"the Log":                {1, 7, 1, 1, 0, 3, 1, 'a', 1, 'c', 130, 0, 5, 2},
		"the Seq":                {1, 7, 1, 1, 0, 3, 1, 'a', 1, 'c', 2, 133, 0, 2},
		"the Next":               {1, 7, 1, 1, 0, 3, 1, 'a', 1, 'c', 2, 5, 130, 0},
		"the Next, with several": {1, 7, 1, 1, 0, 3, 1, 'a', 1, 'c', 2, 5, 130, 128, 128, 0},
	} {
		bad(t, what, b)
	}
	decodes(t, []byte{1, 7, 1, 1, 0, 3, 1, 'a', 1, 'c', 2, 5, 2})
}

// TestDecodeOfGreatNumbers: in the place of each number of an edit stands one that no edit has there, up to the greatest.
func TestDecodeOfGreatNumbers(t *testing.T) {
	number := func(x uint64) []byte { return binary.AppendUvarint(nil, x) }
	places := [][]byte{{1}, {7}, {1}, {1}, {0}, {3}, {1}, {'a'}, {1}, {'c'}, {2}, {5}, {2}}
	most := []uint64{1024, 999999, 1024, 999999, 6, 65536, 512, 0, 512, 0, 999999, 1 << 30, 999999}
	for i, top := range most {
		if top == 0 {
			continue
		}
		for _, x := range []uint64{top + 1, top + 2, 1 << 31, 1<<31 - 1, 1 << 32, 1<<32 + 1, 1 << 62, 1<<63 - 1, 1 << 63, math.MaxUint64} {
			all := slices.Clone(places)
			all[i] = number(x)
			bad(t, "a great number", slices.Concat(all...))
		}
	}
	// Ten bytes and more are no number.
	for i := range places {
		all := slices.Clone(places)
		all[i] = bytes.Repeat([]byte{255}, 10)
		bad(t, "a number without an end", slices.Concat(all...))
	}
	for _, x := range []uint64{0, 1, 2, 6, 7, 512, 513, 1024, 1025, 65536, 65537, 999999, 1000000, 1 << 30, 1<<30 + 1} {
		for i := range places {
			all := slices.Clone(places)
			all[i] = number(x)
			decodes(t, slices.Concat(all...))
		}
	}
}

// TestDecodeOfMoreThanThereIs: counts that no bytes follow.
func TestDecodeOfMoreThanThereIs(t *testing.T) {
	for _, b := range [][]byte{{1}, {128, 8}, {255, 7, 1, 1}, {0, 1}, {0, 128, 8}, {0, 128, 8, 1, 1, 1, 1, 'a', 1, 'b'}, {0, 1, 1, 0, 1, 128, 4, 'a'}, {0, 1, 1, 0, 1, 1, 'a', 128, 4, 'b', 1, 0, 1}} {
		bad(t, "too few bytes", b)
	}
}

func TestDecodeOfEditsThatHaveNoBytes(t *testing.T) {
	for what, e := range map[string]api.Edit{
		"1,025 drops":      edit(upTo(1025), nil, 1, 0, 1),
		"1,025 adds":       edit(nil, row(1025, 0, 1, 4), 1, 0, 1),
		"the drop 0":       edit(numbers(0), nil, 1, 0, 1),
		"the Number 0":     edit(nil, metas(meta(0, 0, 1, "a", "b")), 1, 0, 1),
		"the Level 7":      edit(nil, metas(meta(1, 7, 1, "a", "b")), 1, 0, 1),
		"the Count 0":      edit(nil, metas(meta(1, 0, 0, "a", "b")), 1, 0, 1),
		"no First":         edit(nil, metas(meta(1, 0, 1, "", "b")), 1, 0, 1),
		"no keys":          edit(nil, metas(meta(1, 0, 1, "", "")), 1, 0, 1),
		"First above Last": edit(nil, metas(meta(1, 0, 1, "b", "a")), 1, 0, 1),
		"a First of 513":   edit(nil, metas(meta(1, 0, 1, long(513), "y")), 1, 0, 1),
		"a Last of 513":    edit(nil, metas(meta(1, 0, 1, "a", long(513))), 1, 0, 1),
		"the Log 0":        edit(nil, nil, 0, 0, 1),
		"the Next 0":       edit(nil, nil, 1, 0, 0),
		"a negative Seq":   edit(nil, nil, 1, -1, 1),
		"a great Seq":      edit(nil, nil, 1, 1<<30+1, 1),
	} {
		bad(t, what, plain(e))
	}
}

// TestDecodeOfEachAlteredByte: whatever a byte becomes, the answer is the edit whose bytes these are, or none.
func TestDecodeOfEachAlteredByte(t *testing.T) {
	for _, e := range []api.Edit{edit(numbers(200, 1), metas(meta(300, 6, 128, "ab", "b"), meta(2, 1, 127, "x", "xyz")), 127, 1<<30, 999999), edit(nil, nil, 1, 0, 1), edit(numbers(3), metas(meta(1, 0, 3, "a", "c")), 2, 5, 2)} {
		b := plain(e)
		for i := range b {
			for c := range 256 {
				other := slices.Clone(b)
				other[i] = byte(c)
				decodes(t, other)
			}
		}
	}
}

func TestDecodeOfShortBytes(t *testing.T) {
	few := []byte{0, 1, 2, 97, 128}
	var all func(b []byte)
	all = func(b []byte) {
		decodes(t, b)
		if len(b) < 6 {
			for _, c := range few {
				all(append(slices.Clone(b), c))
			}
		}
	}
	all(nil)
}

func TestDecodeOfAnyBytes(t *testing.T) {
	r := rand.New(rand.NewPCG(10, 4))
	for range 30000 {
		b := make([]byte, r.IntN(60))
		for i := range b {
			b[i] = byte(r.Uint32N(uint32(1 + r.IntN(256))))
		}
		decodes(t, b)
	}
}

func FuzzDecode(f *testing.F) {
	for _, e := range goodEdits() {
		if b := plain(e); len(b) < 3000 {
			f.Add(b)
		}
	}
	f.Fuzz(func(t *testing.T, b []byte) {
		decodes(t, b)
		if e, fault := Decode(b); fault == api.OK {
			if back, fault := Encode(e); fault != api.OK || !bytes.Equal(back, b) {
				t.Fatalf("Encode of Decode of %v: %v, %v", b, back, fault)
			}
		}
	})
}
