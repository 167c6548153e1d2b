package frame

import (
	"bytes"
	"slices"
	"testing"

	"stagepost/api"
)

// These are the tests of rule 4: an answer is new memory, its lists share none, and what is handed in stays as it is, its spare room too.

const spare = 170

// roomy is b with spare room behind it that is filled with a byte by which a change is seen.
func roomy(b []byte) []byte {
	all := bytes.Repeat([]byte{spare}, len(b)+64)
	return all[:copy(all, b)]
}

// untouched says whether b has its bytes, and its spare room those of roomy.
func untouched(b, want []byte) bool {
	room := b[len(want):cap(b)]
	return bytes.Equal(b, want) && bytes.Count(room, []byte{spare}) == len(room)
}

// spoil writes over all of b, its spare room too.
func spoil(b []byte, c byte) {
	b = b[:cap(b)]
	for i := range b {
		b[i] = c
	}
}

// handsOut says whether b has spare room in which something of roomy's stands.
func handsOut(b []byte) bool {
	return bytes.Contains(b[len(b):cap(b)], []byte{spare})
}

func TestAppendLeavesWhatItIsHanded(t *testing.T) {
	for _, ahead := range [][]byte{nil, {}, {1, 2, 3}, framed([]byte("ahead"))} {
		for _, record := range [][]byte{nil, {}, {7}, []byte("first"), mixed(100)} {
			b, r := roomy(ahead), roomy(record)
			one, e := Append(b, r)
			other, f := Append(b, r)
			if e != api.OK || f != api.OK || handsOut(one) || !untouched(b, ahead) || !untouched(r, record) {
				t.Errorf("Append of %v and %v changed them, or hands out their spare room: %v, %v", ahead, record, b[:cap(b)], r[:cap(r)])
			}
			want := bytes.Clone(other)
			spoil(one, 77)
			if !untouched(b, ahead) || !untouched(r, record) || !bytes.Equal(other, want) {
				t.Errorf("the answer of Append of %v and %v shares memory", ahead, record)
			}
			spoil(b, 9)
			spoil(r, 9)
			if !bytes.Equal(other, want) {
				t.Errorf("the answer of Append of %v and %v was changed from outside: %v", ahead, record, other)
			}
		}
	}
}

// TestAppendOfOneListTwice hands in the same memory as both arguments.
func TestAppendOfOneListTwice(t *testing.T) {
	b := roomy([]byte("first"))
	got, e := Append(b, b)
	if want := slices.Concat([]byte("first"), framed([]byte("first"))); e != api.OK || !bytes.Equal(got, want) || !untouched(b, []byte("first")) {
		t.Errorf("Append of one list twice: %v, %v", got, e)
	}
}

// TestAppendBehindOneListTwice puts two frames behind one list: neither is seen in the other.
func TestAppendBehindOneListTwice(t *testing.T) {
	one, _ := Append(nil, []byte("first"))
	b := roomy(one)
	x, _ := Append(b, []byte("x"))
	y, _ := Append(b, []byte("y"))
	if !bytes.Equal(x, framed([]byte("first"), []byte("x"))) || !bytes.Equal(y, framed([]byte("first"), []byte("y"))) {
		t.Errorf("Append behind one list twice: %v, %v", x, y)
	}
}

func TestRefusedAppendChangesNothing(t *testing.T) {
	b, r := roomy([]byte{1, 2, 3}), roomy(mixed(1<<20+1))
	if got, e := Append(b, r); got != nil || e != api.ErrLong {
		t.Errorf("Append: %v, %v", short(got), e)
	}
	if !untouched(b, []byte{1, 2, 3}) || !untouched(r, mixed(1<<20+1)) {
		t.Errorf("Append changed what it refused")
	}
}

func TestAppendDoesNotCountSpareRoom(t *testing.T) {
	record := make([]byte, 1<<20, 1<<21)
	if got, e := Append(nil, record); e != api.OK || len(got) != 1<<20+12 {
		t.Errorf("Append of 2^20 bytes with spare room: %d bytes, %v", len(got), e)
	}
}

func TestReadAnswersNewMemory(t *testing.T) {
	for _, record := range [][]byte{nil, {7}, []byte("first"), mixed(100)} {
		was := framed(record, []byte("behind"))
		b := roomy(was)
		one, _, _ := Read(b)
		other, n, e := Read(b)
		if e != api.OK || n != len(record)+12 || handsOut(one) || !untouched(b, was) {
			t.Errorf("Read changed what it was handed, or hands out its spare room: %v", b[:cap(b)])
		}
		spoil(one, 77)
		if !untouched(b, was) || !bytes.Equal(other, record) {
			t.Errorf("Read's answer shares memory: %v, %v", b[:cap(b)], other)
		}
		spoil(b, 9)
		if !bytes.Equal(other, record) {
			t.Errorf("Read's answer was changed from outside: %v", other)
		}
	}
}

// TestSpareRoomIsNotRead cuts whole frames, whose ends stand in the spare room then.
func TestSpareRoomIsNotRead(t *testing.T) {
	records := [][]byte{[]byte("first"), nil}
	b := framed(records...)
	for n := range 17 {
		refused(t, b[:n], api.ErrMissing)
	}
	scans(t, b[:0], nil, 0, api.OK)
	scans(t, b[:16], nil, 0, api.ErrMissing)
	scans(t, b[:17], records[:1], 17, api.OK)
	scans(t, b[:28], records[:1], 17, api.ErrMissing)
	if !bytes.Equal(b, framed(records...)) {
		t.Errorf("what was handed in was changed: %v", b)
	}
}

func TestRefusedReadsChangeNothing(t *testing.T) {
	altered := framed([]byte("first"))
	altered[9] ^= 1
	for _, was := range [][]byte{nil, mixed(7), mixed(30), head(1<<20 + 1), head(20), altered, framed([]byte("torn"))[:14]} {
		b := roomy(was)
		Read(b)
		Scan(b)
		gone(Each(b))
		if !untouched(b, was) {
			t.Errorf("what was refused was changed: %v, from %v", b[:cap(b)], was)
		}
	}
}

// many are records of many lengths, equal ones among them.
func many() [][]byte {
	return [][]byte{[]byte("first"), nil, []byte("first"), mixed(40), {7}, []byte("first"), {}, mixed(100), {0}}
}

func TestScanAnswersNewMemory(t *testing.T) {
	records := many()
	was := framed(records...)
	b := roomy(was)
	one, _, _ := Scan(b)
	other, _, _ := Scan(b)
	if !untouched(b, was) {
		t.Errorf("Scan changed what it was handed: %v", b[:cap(b)])
	}
	for i := range one {
		if handsOut(one[i]) {
			t.Errorf("Scan hands out spare room: %v", one[i][:cap(one[i])])
		}
		spoil(one[i], 77)
		// Those behind it are as they were: the records of one answer share nothing, nor do their spare rooms.
		if !slices.EqualFunc(one[i+1:], records[i+1:], bytes.Equal) {
			t.Errorf("the record %d of Scan shares memory with another one", i)
		}
	}
	for i := range one[:cap(one)] {
		one[:cap(one)][i] = []byte("none")
	}
	if !untouched(b, was) || !slices.EqualFunc(other, records, bytes.Equal) {
		t.Errorf("Scan's answer shares memory: %v, %v", b[:cap(b)], other)
	}
	spoil(b, 9)
	if !slices.EqualFunc(other, records, bytes.Equal) {
		t.Errorf("Scan's answer was changed from outside: %v", other)
	}
}

// TestScanSharesNoneBackwards spoils each record from the last one on: those ahead of it are as they were.
func TestScanSharesNoneBackwards(t *testing.T) {
	records := many()
	got, _, _ := Scan(framed(records...))
	for i := len(got) - 1; i >= 0; i-- {
		spoil(got[i], 77)
		if !slices.EqualFunc(got[:i], records[:i], bytes.Equal) {
			t.Errorf("the record %d of Scan shares memory with another one", i)
		}
	}
}

func TestEachGoesOverWhatWasThere(t *testing.T) {
	records := many()
	was := framed(records...)
	b := roomy(was)
	each := Each(b)
	want := gone(Each(was))
	spoil(b, 9)
	if got := gone(each); !slices.EqualFunc(got, want, samePlace) {
		t.Errorf("Each looked at what it was handed later: %v", got)
	}
	copy(b, framed([]byte("other")))
	if got := gone(each); !slices.EqualFunc(got, want, samePlace) {
		t.Errorf("Each, gone over again, looked at what it was handed later: %v", got)
	}
}

// TestEachChangedWhileItIsGoneOver writes over what was handed in from within the loop.
func TestEachChangedWhileItIsGoneOver(t *testing.T) {
	b := framed(many()...)
	want := gone(Each(b))
	var got []place
	for at, record := range Each(b) {
		got = append(got, place{at, record})
		spoil(b, 9)
	}
	if !slices.EqualFunc(got, want, samePlace) {
		t.Errorf("Each looked at what it was handed while it was gone over: %v", got)
	}
}

func TestEachHandsOutNewMemory(t *testing.T) {
	records := many()
	was := framed(records...)
	b := roomy(was)
	each := Each(b)
	first := gone(each)
	for i, p := range first {
		if handsOut(p.record) {
			t.Errorf("Each hands out spare room: %v", p.record[:cap(p.record)])
		}
		spoil(p.record, 77)
		if rest := first[i+1:]; !slices.EqualFunc(rest, records[i+1:], func(p place, r []byte) bool { return bytes.Equal(p.record, r) }) {
			t.Errorf("the record %d of Each shares memory with another one", i)
		}
	}
	again := gone(each)
	if !untouched(b, was) || !slices.EqualFunc(again, records, func(p place, r []byte) bool { return bytes.Equal(p.record, r) }) {
		t.Errorf("what was handed out was seen again: %v", again)
	}
	for _, record := range each {
		spoil(record, 5)
	}
	if got := gone(each); !slices.EqualFunc(got, again, samePlace) {
		t.Errorf("what was changed within the loop was seen again: %v", got)
	}
}

// TestAnswersHangOnArgumentsAlone asks again behind other calls (P7).
func TestAnswersHangOnArgumentsAlone(t *testing.T) {
	b := framed([]byte("first"), nil)
	each := Each(b)
	Append(b, []byte("other"))
	Append(nil, make([]byte, 1<<20+1))
	Read([]byte{1, 2, 3})
	Scan(mixed(50))
	for range Each(framed(nil, nil, nil)) {
		break
	}
	scans(t, b, [][]byte{[]byte("first"), nil}, 29, api.OK)
	if got := gone(each); !slices.EqualFunc(got, []place{{0, []byte("first")}, {17, nil}}, samePlace) {
		t.Errorf("asked again, Each goes over %v", got)
	}
}
