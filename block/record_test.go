package block

import (
	"bytes"
	"encoding/binary"
	"fmt"
	"math"
	"math/rand/v2"
	"slices"
	"strings"
	"testing"

	"stagepost/api"
)

// These are the tests of P7.1, of Encode and Decode.

// decodes says that Decode answers as the model.
func decodes(t testing.TB, b []byte) api.Errno {
	t.Helper()
	want, e := decoded(b)
	got, f := Decode(b)
	if f != e || !slices.Equal(got, want) || f != api.OK && got != nil {
		t.Fatalf("Decode of %d bytes, %v: %s, %d; not %s, %d", len(b), b[:min(len(b), 40)], brief(got), f, brief(want), e)
	}
	return f
}

// bad says that Decode answers ErrBad, and nothing beside it.
func bad(t testing.TB, what string, b []byte) {
	t.Helper()
	answers(t, "Decode of "+what, decodes(t, b), api.ErrBad)
}

// good says that these are the bytes of these entries, there and back.
func good(t testing.TB, what string, l []api.Entry, b []byte) {
	t.Helper()
	if got, e := Encode(l); e != api.OK || !bytes.Equal(got, b) {
		t.Errorf("Encode of %s: %v, %d; not %v", what, got[:min(len(got), 60)], e, b[:min(len(b), 60)])
	}
	if got, e := Decode(b); e != api.OK || !slices.Equal(got, l) {
		t.Errorf("Decode of %s: %s, %d; not %s", what, brief(got), e, brief(l))
	}
}

// blocks are lists that are blocks.
func blocks() map[string][]api.Entry {
	all := map[string][]api.Entry{"all kinds": various(), "the chapter's": chapter()}
	for _, n := range []int{1, 2, 7, 8, 9, 15, 16, 17, 63, 64} {
		all[fmt.Sprint(n, " keys")] = row(n)
		all[fmt.Sprint(n, " of few keys")] = crowd(n, uint64(n))
		var versions, deletes, nothing, growing []api.Entry
		for i := range n {
			versions = append(versions, put("k", 100-i))
			deletes = append(deletes, del("k", 100-i))
			nothing = append(nothing, put(string([]byte{byte(3 * i)}), 1))
			growing = append(growing, put(long(1+8*i), 1))
		}
		all[fmt.Sprint(n, " versions")] = versions
		all[fmt.Sprint(n, " deletes")] = deletes
		all[fmt.Sprint(n, " keys that share nothing")] = nothing
		all[fmt.Sprint(n, " keys that grow")] = growing
	}
	var great []api.Entry
	for i := range 64 {
		great = append(great, api.Entry{Key: long(511) + string([]byte{byte(192 + i)}), Value: long(4096), Seq: 1 << 30})
	}
	all["the greatest"] = great
	return all
}

func TestBytesOfBlocks(t *testing.T) {
	for what, l := range blocks() {
		good(t, what, l, plain(l))
	}
}

func TestBytesThatAreWrittenOut(t *testing.T) {
	a, k := []byte{'a'}, bytes.Repeat([]byte{'x'}, 512)
	for what, x := range map[string]struct {
		l []api.Entry
		b []byte
	}{
		"a put":                  {list(api.Entry{Key: "a", Value: "1", Seq: 1}), []byte{1, 0, 1, 'a', 1, 0, 1, '1'}},
		"a put of nothing":       {list(api.Entry{Key: "a", Seq: 127}), []byte{1, 0, 1, 'a', 127, 0, 0}},
		"a delete":               {list(del("\x00\xff", 128)), []byte{1, 0, 2, 0, 255, 128, 1, 1}},
		"the greatest Seq":       {list(del("a", 1<<30)), []byte{1, 0, 1, 'a', 128, 128, 128, 128, 4, 1}},
		"nothing is shared":      {list(del("a", 1), del("b", 1)), []byte{2, 0, 1, 'a', 1, 1, 0, 1, 'b', 1, 1}},
		"a part is shared":       {list(del("abc", 1), del("abd", 1)), []byte{2, 0, 3, 'a', 'b', 'c', 1, 1, 2, 1, 'd', 1, 1}},
		"all is shared":          {list(del("ab", 2), del("ab", 1)), []byte{2, 0, 2, 'a', 'b', 2, 1, 2, 0, 1, 1}},
		"all of the one ahead":   {list(del("a", 1), del("abc", 2)), []byte{2, 0, 1, 'a', 1, 1, 1, 2, 'b', 'c', 2, 1}},
		"the end is not shared":  {list(del("xb", 1), del("yb", 1)), []byte{2, 0, 2, 'x', 'b', 1, 1, 0, 2, 'y', 'b', 1, 1}},
		"a key of 512 bytes":     {list(del(long(512), 1)), slices.Concat([]byte{1, 0, 128, 4}, k, []byte{1, 1})},
		"one of 512 behind 511":  {list(del(long(511), 1), del(long(512), 1)), slices.Concat([]byte{2, 0, 255, 3}, k[:511], []byte{1, 1, 255, 3, 1, 'x', 1, 1})},
		"512 bytes that share":   {list(del(long(512), 2), del(long(512), 1)), slices.Concat([]byte{2, 0, 128, 4}, k, []byte{2, 1, 128, 4, 0, 1, 1})},
		"a value of 4,096 bytes": {list(api.Entry{Key: "a", Value: long(4096), Seq: 1}), slices.Concat([]byte{1, 0, 1}, a, []byte{1, 0, 128, 32}, bytes.Repeat(k, 8))},
	} {
		good(t, what, x.l, x.b)
	}
}

// TestSharedAtEachPlace reads the bytes by hand: at a place that is a multiple of 8 nothing is shared, at the others what the keys have in common.
func TestSharedAtEachPlace(t *testing.T) {
	for _, n := range []int{1, 8, 9, 16, 17, 64} {
		// The versions of one key share all of it.
		var all []api.Entry
		want := []byte{byte(n)}
		for i := range n {
			all = append(all, del("key", 100-i))
			if i == 0 || i == 8 || i == 16 || i == 24 || i == 32 || i == 40 || i == 48 || i == 56 {
				want = append(want, 0, 3, 'k', 'e', 'y', byte(100-i), 1)
			} else {
				want = append(want, 3, 0, byte(100-i), 1)
			}
		}
		good(t, fmt.Sprint(n, " versions of a key"), all, want)
		// Keys that share a part of it.
		all, want = nil, []byte{byte(n)}
		for i := range n {
			all = append(all, del("key"+string([]byte{byte(' ' + i)}), 7))
			if i%8 == 0 {
				want = append(want, 0, 4, 'k', 'e', 'y', byte(' '+i), 7, 1)
			} else {
				want = append(want, 3, 1, byte(' '+i), 7, 1)
			}
		}
		good(t, fmt.Sprint(n, " keys that share a part"), all, want)
		// Keys that share nothing.
		all, want = nil, []byte{byte(n)}
		for i := range n {
			all = append(all, del(string([]byte{byte(' ' + i), 'z'}), 7))
			want = append(want, 0, 2, byte(' '+i), 'z', 7, 1)
		}
		good(t, fmt.Sprint(n, " keys that share nothing"), all, want)
	}
}

func TestDecodeOfNoBytes(t *testing.T) {
	bad(t, "no bytes", nil)
	bad(t, "an empty list", []byte{})
}

// TestDecodeOfTornBlocks has each first part of a block, and what is left behind each first part.
func TestDecodeOfTornBlocks(t *testing.T) {
	for what, l := range blocks() {
		b := plain(l)
		for n := range min(len(b), 300) {
			bad(t, "a first part of "+what, b[:n])
			bad(t, "all but the end of "+what, b[:len(b)-1-n])
			decodes(t, b[n:])
		}
	}
}

func TestDecodeOfBytesBehindABlock(t *testing.T) {
	for what, l := range blocks() {
		b := plain(l)
		for _, c := range []byte{0, 1, 'a', 128, 255} {
			bad(t, what+" and a byte", append(slices.Clone(b), c))
		}
		bad(t, what+" twice", append(slices.Clone(b), b...))
		bad(t, what+" and its last entry", append(slices.Clone(b), pieces(l)[len(l)-1].bytes()...))
		bad(t, "a byte and "+what, append([]byte{0}, b...))
	}
}

// TestDecodeOfCounts has fewer and more entries than are said.
func TestDecodeOfCounts(t *testing.T) {
	for _, n := range []int{1, 8, 9, 63, 64, 65, 66, 127, 128, 200} {
		all := pieces(row(n))
		for _, count := range []int{0, 1, 7, 8, 9, 63, 64, 65, 66, 127, 128, 200, 1 << 31} {
			b := laid(uint64(count), all...)
			if count == n && n <= 64 {
				good(t, "so many", row(n), b)
			} else {
				bad(t, "another number", b)
			}
		}
	}
}

// TestDecodeOfSharedCounts has each count at each of 17 places, the rest of the key being as the count says: just one is right.
func TestDecodeOfSharedCounts(t *testing.T) {
	for _, l := range lists(crowd(17, 3), row(17), various(), blocks()["17 versions"], blocks()["17 keys that share nothing"], blocks()["17 keys that grow"]) {
		right := pieces(l)
		for place := range l {
			ahead := ""
			if place > 0 {
				ahead = l[place-1].Key
			}
			for share := range len(ahead) + 3 {
				all := slices.Clone(right)
				begin := ahead[:min(share, len(ahead))]
				if !strings.HasPrefix(l[place].Key, begin) {
					continue // the key can't be said so
				}
				all[place].share, all[place].left = uint64(share), l[place].Key[len(begin):]
				b := laid(uint64(len(l)), all...)
				if all[place] == right[place] {
					good(t, "the right count", l, b)
				} else {
					bad(t, "another shared count", b)
				}
			}
		}
	}
}

// TestDecodeOfSharedCountsWithTheRestAsItIs turns the count alone: to such as make another key, and to such as are above the length of the key ahead.
func TestDecodeOfSharedCountsWithTheRestAsItIs(t *testing.T) {
	l := row(17)
	for place := range l {
		for _, share := range []uint64{0, 1, 2, 3, 4, 5} {
			all := pieces(l)
			all[place].share = share
			decodes(t, laid(17, all...))
		}
		for _, share := range []uint64{6, 127, 128, 512, 513, 1 << 20, 1 << 31, 1 << 32, 1 << 62, 1 << 63, math.MaxUint64} {
			all := pieces(l)
			all[place].share = share
			bad(t, "more than there is ahead", laid(17, all...))
		}
	}
}

// TestDecodeOfSharedCountsByHand has those that the chapter's words rule out, written out.
func TestDecodeOfSharedCountsByHand(t *testing.T) {
	for what, b := range map[string][]byte{
		"the first entry shares":   {1, 1, 1, 'a', 1, 1},
		"too few of a part":        {2, 0, 3, 'a', 'b', 'c', 1, 1, 1, 2, 'b', 'd', 1, 1},
		"none of a part":           {2, 0, 3, 'a', 'b', 'c', 1, 1, 0, 3, 'a', 'b', 'd', 1, 1},
		"too few of all":           {2, 0, 2, 'a', 'b', 2, 1, 1, 1, 'b', 1, 1},
		"none of all":              {2, 0, 2, 'a', 'b', 2, 1, 0, 2, 'a', 'b', 1, 1},
		"more than there is ahead": {2, 0, 1, 'a', 1, 1, 2, 1, 'b', 1, 1},
	} {
		bad(t, what, b)
	}
	// At the place 8 nothing is shared, at 9 it is.
	l := blocks()["17 versions"]
	all := pieces(l)
	all[8].share, all[8].left = 1, ""
	bad(t, "the place 8 shares", laid(17, all...))
	all = pieces(l)
	all[9].share, all[9].left = 0, "k"
	bad(t, "the place 9 shares nothing", laid(17, all...))
}

func TestDecodeOfEntriesThatAreNotInOrder(t *testing.T) {
	for what, l := range map[string][]api.Entry{
		"rising Seqs":        list(put("a", 1), put("a", 2)),
		"one Seq":            list(put("a", 1), put("a", 1)),
		"a put and a delete": list(put("a", 1), del("a", 1)),
		"falling keys":       list(put("b", 1), put("a", 1)),
		"a beginning behind": list(put("ab", 1), put("a", 1)),
	} {
		bad(t, what, plain(l))
		bad(t, what+" behind others", plain(append(row(8), l...)))
	}
	for place := 1; place < 64; place++ {
		l := row(64)
		l[place], l[place-1] = l[place-1], l[place]
		bad(t, "two that changed places", plain(l))
	}
}

func TestDecodeOfEntriesThatMayNotBe(t *testing.T) {
	for _, e := range wrong() {
		if e.Del && e.Value != "" {
			continue // bytes can't say it
		}
		bad(t, brief(list(e)), plain(list(e)))
		bad(t, brief(list(e))+" behind another one", plain(list(put("a", 1), e)))
	}
	bad(t, "a delete with a value", append(plain(list(del("k", 1))), 1, 'v'))
	// Each part is short enough, the whole key is too long.
	ahead := put(long(300), 1)
	bad(t, "a key of 513 bytes, in two parts", plain(list(ahead, put(long(513), 1))))
	good(t, "one of 512 bytes", list(ahead, put(long(512), 1)), plain(list(ahead, put(long(512), 1))))
	// Keys of one part each, that grow and grow.
	var all []piece
	for i := range 64 {
		all = append(all, piece{share: uint64(512 * (i % 8)), left: long(512), seq: 1, mark: 1})
	}
	bad(t, "keys that grow and grow", laid(64, all...))
}

func TestDecodeOfMarks(t *testing.T) {
	for mark := range 256 {
		put := []byte{1, 0, 1, 'a', 1, byte(mark), 1, 'x'}
		del := []byte{1, 0, 1, 'a', 1, byte(mark)}
		if mark == 0 {
			good(t, "a put", list(api.Entry{Key: "a", Value: "x", Seq: 1}), put)
		} else {
			bad(t, "a put with another mark", put)
		}
		if mark == 1 {
			good(t, "a delete", list(api.Entry{Key: "a", Seq: 1, Del: true}), del)
		} else {
			bad(t, "a delete with another mark", del)
		}
	}
}

func TestDecodeOfNumbersThatAreNotWrittenTheShortestWay(t *testing.T) {
	for what, b := range map[string][]byte{
		"the count":            {129, 0, 0, 1, 'a', 1, 0, 1, 'x'},
		"a longer count":       {129, 128, 0, 0, 1, 'a', 1, 0, 1, 'x'},
		"the shared count":     {1, 128, 0, 1, 'a', 1, 0, 1, 'x'},
		"a second one":         {2, 0, 1, 'a', 1, 1, 129, 0, 1, 'b', 1, 1},
		"how many are left":    {1, 0, 129, 0, 'a', 1, 0, 1, 'x'},
		"none are left":        {2, 0, 1, 'a', 2, 1, 1, 128, 0, 1, 1},
		"the Seq":              {1, 0, 1, 'a', 129, 0, 0, 1, 'x'},
		"a put's mark":         {1, 0, 1, 'a', 1, 128, 0, 1, 'x'},
		"a delete's mark":      {1, 0, 1, 'a', 1, 129, 0},
		"the value's length":   {1, 0, 1, 'a', 1, 0, 129, 0, 'x'},
		"a length of none":     {1, 0, 1, 'a', 1, 0, 128, 0},
		"a Seq of ten bytes":   {1, 0, 1, 'a', 129, 128, 128, 128, 128, 128, 128, 128, 128, 0, 0, 1, 'x'},
		"more than 64 bits":    {1, 0, 1, 'a', 255, 255, 255, 255, 255, 255, 255, 255, 255, 2, 0, 1, 'x'},
		"a number without end": bytes.Repeat([]byte{255}, 40),
	} {
		bad(t, what, b)
	}
}

// TestDecodeOfLengthsThatLie has numbers that tell more bytes than there are, or than there may be.
func TestDecodeOfLengthsThatLie(t *testing.T) {
	for _, n := range []uint64{2, 3, 64, 65, 127, 128, 512, 513, 4096, 4097, 1 << 20, 1 << 30, 1<<30 + 1, 1 << 31, 1 << 62, 1 << 63, math.MaxUint64} {
		x := binary.AppendUvarint(nil, n)
		bad(t, "more entries than there are", slices.Concat(x, []byte{0, 1, 'a', 1, 1}))
		bad(t, "a longer key than there is", slices.Concat([]byte{1, 0}, x, []byte{'a', 1, 1}))
		bad(t, "a longer value than there is", slices.Concat([]byte{1, 0, 1, 'a', 1, 0}, x, []byte{'x'}))
	}
	bad(t, "the Seq 0", []byte{1, 0, 1, 'a', 0, 1})
	bad(t, "the Seq 2^30 and 1", []byte{1, 0, 1, 'a', 129, 128, 128, 128, 4, 1})
	bad(t, "the greatest Seq of 64 bits", []byte{1, 0, 1, 'a', 255, 255, 255, 255, 255, 255, 255, 255, 255, 1, 1})
	bad(t, "an empty key", []byte{1, 0, 0, 1, 1})
}

// TestDecodeOfTurnedBytes changes each byte of a block into each other one: a few of these are other blocks.
func TestDecodeOfTurnedBytes(t *testing.T) {
	for _, l := range lists(chapter(), crowd(17, 5)) {
		r := plain(l)
		others := 0
		for i := range r {
			for c := range 256 {
				b := slices.Clone(r)
				b[i] = byte(c)
				if decodes(t, b) == api.OK {
					others++
				}
			}
		}
		if others < 256 || others > 256*len(r)*3/4 {
			t.Errorf("%d of %d are blocks", others, 256*len(r))
		}
	}
}

func TestDecodeOfAnyBytes(t *testing.T) {
	r := rand.New(rand.NewPCG(7, 1))
	blocks := 0
	for range 300000 {
		b := make([]byte, r.IntN(16))
		for i := range b {
			b[i] = byte(r.IntN(4))
		}
		if decodes(t, b) == api.OK {
			blocks++
		}
	}
	if blocks < 200 {
		t.Errorf("just %d were blocks", blocks)
	}
}

func FuzzDecode(f *testing.F) {
	for _, l := range blocks() {
		if b := plain(l); len(b) < 3000 {
			f.Add(b)
		}
	}
	f.Fuzz(func(t *testing.T, b []byte) {
		if decodes(t, b) != api.OK {
			return
		}
		l, _ := Decode(b)
		if again, e := Encode(l); e != api.OK || !bytes.Equal(again, b) {
			t.Fatalf("Encode of Decode of %v: %v, %v", b, again, e)
		}
	})
}
