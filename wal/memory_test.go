package wal

import (
	"bytes"
	"reflect"
	"slices"
	"testing"
	"unsafe"

	"stagepost/api"
)

// These are the tests of rule 4 (an answer is new memory, what is handed in stays as it is and is not kept), and of P7.

const spare = 170

// roomy is b with spare room behind it that is filled with a byte by which a change is seen.
func roomy(b []byte) []byte {
	all := bytes.Repeat([]byte{spare}, len(b)+64)
	return all[:copy(all, b)]
}

// untouched says whether b has its bytes, and its spare room those of roomy.
func untouched(b, want []byte) bool {
	room := b[len(want):cap(b)]
	return bytes.Equal(b, want) && bytes.Count(room, []byte{spare}) == len(room)
}

// spoil writes over all of b, its spare room too.
func spoil(b []byte) {
	b = b[:cap(b)]
	for i := range b {
		b[i] = 77
	}
}

// odd is a write by which a change is seen.
func odd() api.Write { return put("spoilt", "spoilt") }

// roomyWrites is l with spare room behind it that is filled with odd writes.
func roomyWrites(l []api.Write) []api.Write {
	all := slices.Repeat(list(odd()), len(l)+8)
	return all[:copy(all, l)]
}

// untouchedWrites says whether l has its writes, and its spare room those of roomyWrites.
func untouchedWrites(l, want []api.Write) bool {
	return slices.Equal(l, want) && slices.Equal(l[len(l):cap(l)], slices.Repeat(list(odd()), 8))
}

// spoilWrites writes over all of l, its spare room too.
func spoilWrites(l []api.Write) {
	l = l[:cap(l)]
	for i := range l {
		l[i] = odd()
	}
}

// soft is l with texts whose bytes can be written over, as nobody should, and the call that does so.
func soft(l []api.Write) ([]api.Write, func()) {
	var all [][]byte
	text := func(s string) string {
		if s == "" {
			return ""
		}
		b := []byte(s)
		all = append(all, b)
		return unsafe.String(&b[0], len(b))
	}
	var out []api.Write
	for _, w := range l {
		out = append(out, api.Write{Key: text(w.Key), Value: text(w.Value), Del: w.Del})
	}
	return out, func() {
		for _, b := range all {
			spoil(b)
		}
	}
}

// some are lists of writes, good ones and others.
func some() [][]api.Write {
	return [][]api.Write{nil, list(put("a", "1")), list(del("a")), many(5), many(64), many(65), list(put("", "")), list(put("b", ""), put("a", ""), put("b", "")), list(put("z", ""), put("y", ""), put("x", long(4097)))}
}

func TestCheckAndEncodeLeaveWhatTheyAreHanded(t *testing.T) {
	for _, l := range some() {
		handed := roomyWrites(l)
		Check(handed)
		one, e := Encode(batch(1, handed...))
		other, _ := Encode(api.Batch{Seq: 1, Writes: handed})
		Encode(api.Batch{Seq: 0, Writes: handed})
		if !untouchedWrites(handed, l) {
			t.Errorf("what was handed in was changed: %v", handed[:cap(handed)])
		}
		if e != api.OK {
			continue
		}
		want := bytes.Clone(other)
		spoil(one)
		spoilWrites(handed)
		if !bytes.Equal(other, want) || !bytes.Equal(want, plain(batch(1, l...))) {
			t.Errorf("Encode's answer shares memory: %v", other)
		}
	}
}

func TestEncodeKeepsNoText(t *testing.T) {
	l, change := soft(list(put("key", "value"), del("other")))
	b, _ := Encode(batch(1, l...))
	change()
	if !bytes.Equal(b, plain(batch(1, put("key", "value"), del("other")))) {
		t.Errorf("Encode's answer was changed from outside: %q", b)
	}
}

func TestDecodeAnswersNewMemory(t *testing.T) {
	for _, want := range good()[:9] {
		was := plain(want)
		b := roomy(was)
		one, _ := Decode(b)
		other, e := Decode(b)
		if e != api.OK || !untouched(b, was) {
			t.Errorf("Decode changed what it was handed: %v, %v", b[:cap(b)], e)
		}
		for _, w := range one.Writes[len(one.Writes):cap(one.Writes)] {
			if w != (api.Write{}) {
				t.Errorf("spare room is handed out: %v", w)
			}
		}
		spoilWrites(one.Writes)
		spoil(b)
		if !reflect.DeepEqual(other, want) {
			t.Errorf("Decode's answer shares memory: %s, not %s", brief([]api.Batch{other}), brief([]api.Batch{want}))
		}
	}
}

// TestDecodeDoesNotReadSpareRoom cuts whole records, whose ends stand in the spare room then.
func TestDecodeDoesNotReadSpareRoom(t *testing.T) {
	b := plain(batch(3, put("ab", "12"), del("c"), put("d", "")))
	for n := range b {
		bad(t, "a first part", b[:n])
	}
	if got, e := Decode(roomy(b)); e != api.OK || len(got.Writes) != 3 {
		t.Errorf("Decode: %v, %v", got, e)
	}
}

func TestRefusedDecodeLeavesWhatItIsHanded(t *testing.T) {
	for _, was := range [][]byte{nil, {0}, {1, 1, 2}, plain(batch(1)), append(plain(simple(1)), 0), plain(simple(1))[:4]} {
		b := roomy(was)
		if _, e := Decode(b); e != api.ErrBad || !untouched(b, was) {
			t.Errorf("Decode of %v: %v, %v", was, e, b[:cap(b)])
		}
	}
}

func TestAppendKeepsNothing(t *testing.T) {
	for _, l := range some() {
		f := fresh(t, 1<<20)
		w, _ := opened(t, f, 1, 0)
		handed := roomyWrites(l)
		_, e := w.Append(handed)
		if !untouchedWrites(handed, l) {
			t.Errorf("Append changed what it was handed: %v", handed[:cap(handed)])
		}
		spoilWrites(handed)
		if e == api.OK {
			appends(t, w, 2, del("behind"))
			tells(t, f, 1, 0, []api.Batch{batch(1, l...), batch(2, del("behind"))}, 2, 2)
		}
		if !slices.Equal(handed[:cap(handed)], slices.Repeat(list(odd()), cap(handed))) {
			t.Errorf("what was handed in was changed later")
		}
	}
}

func TestAppendKeepsNoText(t *testing.T) {
	f := fresh(t, 1000)
	w, _ := opened(t, f, 1, 0)
	l, change := soft(list(put("key", "value"), del("other")))
	appends(t, w, 1, l...)
	change()
	appends(t, w, 2, del("key"))
	tells(t, f, 1, 0, []api.Batch{batch(1, put("key", "value"), del("other")), batch(2, del("key"))}, 2, 2)
}

// various are batches with lists of several lengths.
func various() []api.Batch {
	var all []api.Batch
	for i := range 9 {
		all = append(all, batch(i+1, many(1+i%4)...))
	}
	return all
}

func TestOpenAnswersNewMemory(t *testing.T) {
	want := various()
	for _, seq := range []int{0, 4, 8} {
		f := laid(t, 1, frames(want[:3]...), frames(want[3:7]...), frames(want[7:]...))
		_, one := opened(t, f, 1, seq)
		done(t, f.Remove(named(4)))
		w, other := opened(t, f, 1, seq)
		for i := range one {
			spoilWrites(one[i].Writes)
			// Those behind it are as they were: no two lists share any memory, their spare room neither.
			if !sameBatches(one[i+1:], want[seq+i+1:]) {
				t.Errorf("the batch %d shares memory with another one", one[i].Seq)
			}
		}
		for i := range one[:cap(one)] {
			one[:cap(one)][i] = batch(77, odd())
		}
		if !sameBatches(other, want[seq:]) {
			t.Errorf("Open's answer shares memory: %s", brief(other))
		}
		appends(t, w, 10, del("behind"))
		done(t, f.Remove(named(4)), f.SyncNames())
		tells(t, f, 1, seq, want[seq:], 9, 4)
		reads(t, f, named(1), frames(want[:3]...))
		reads(t, f, named(2), frames(want[3:7]...))
		reads(t, f, named(3), frames(want[7:]...))
	}
}

// TestOpenSharesNoneBackwards spoils each list from the last one on.
func TestOpenSharesNoneBackwards(t *testing.T) {
	want := various()
	_, l := opened(t, laid(t, 1, frames(want...)), 1, 0)
	for i := len(l) - 1; i >= 0; i-- {
		spoilWrites(l[i].Writes)
		if !sameBatches(l[:i], want[:i]) {
			t.Errorf("the batch %d shares memory with another one", l[i].Seq)
		}
	}
}

// TestOpenHandsOutNoSpareRoom: behind what is told there is nothing of what is not.
func TestOpenHandsOutNoSpareRoom(t *testing.T) {
	_, l := opened(t, laid(t, 1, frames(various()...)), 1, 5)
	for _, b := range l[len(l):cap(l)] {
		if !reflect.DeepEqual(b, api.Batch{}) {
			t.Errorf("spare room holds %v", b)
		}
	}
}

// TestWhatIsToldStays: what becomes of the files later is not seen in an answer.
func TestWhatIsToldStays(t *testing.T) {
	want := various()
	f := laid(t, 1, frames(want...))
	w, l := opened(t, f, 1, 0)
	done(t, f.Alter(named(1), 12, 255), f.Alter(named(1), 20, 255))
	appends(t, w, 10, del("behind"))
	done(t, w.Roll(), w.Drop(3), f.Crash(0, 0))
	if !sameBatches(l, want) {
		t.Errorf("an answer was changed later: %s", brief(l))
	}
}

// TestWalsDoNotMeet: what is done to one is not seen in another one over another file system (P7).
func TestWalsDoNotMeet(t *testing.T) {
	f, g := fresh(t, 1000), fresh(t, 1000)
	one, _ := opened(t, f, 1, 0)
	other, _ := opened(t, g, 1, 0)
	for i := range 5 {
		fill(t, one, i+1, i+1)
		if i%2 == 0 {
			done(t, other.Roll())
		}
	}
	is(t, one, 5, 1)
	is(t, other, 0, 4)
	off(t, g)
	other.Append(many(1))
	fill(t, one, 6, 6)
	answers(t, "Roll", other.Roll(), api.ErrOff)
	done(t, one.Roll())
}
