package bloom

import (
	"bytes"
	"slices"
	"testing"
	"unsafe"

	"stagepost/api"
)

// These are the tests of rules 3 and 4, and of P7: an answer is new memory, what is handed in stays as it is, its spare room too, and an answer hangs on nothing else.

const spare = 32

// roomy is l with spare room behind it that is filled by what a change, or a look, is seen.
func roomy[T any](l []T, odd T) []T {
	return append(slices.Clone(l), slices.Repeat([]T{odd}, spare)...)[:len(l)]
}

// untouched says whether l is as it was, and its spare room that of roomy.
func untouched[T comparable](l, was []T, odd T) bool {
	room := l[len(was) : len(was)+spare]
	return slices.Equal(l, was) && !slices.ContainsFunc(room, func(x T) bool { return x != odd })
}

func fill[T any](l []T, with T) {
	for i := range l {
		l[i] = with
	}
}

// empty says that the spare room of an answer has nothing that was handed in.
func empty(t *testing.T, what string, b []byte) {
	t.Helper()
	for _, c := range b[len(b):cap(b)] {
		if c != 0 {
			t.Errorf("%s hands out spare room: %v", what, b[:cap(b)])
		}
	}
}

// soft is a text over bytes that may be changed behind its back.
func soft(s string) (string, func()) {
	b := []byte(s)
	return unsafe.String(unsafe.SliceData(b), len(b)), func() { fill(b, '#') }
}

func TestOfAnswersNewMemory(t *testing.T) {
	for _, was := range [][]string{nil, {"a"}, some(5), texts()} {
		for _, d := range []int{1, 8, 10, 16} {
			keys := roomy(was, "odd")
			one, other := made(t, keys, d), made(t, keys, d)
			want := made(t, was, d)
			if !untouched(keys, was, "odd") {
				t.Fatalf("Of changed what it was handed: %q", keys[:len(was)+spare])
			}
			if !bytes.Equal(one, want) {
				t.Errorf("Of hangs on the spare room: %v, not %v", one, want)
			}
			empty(t, "Of", one)
			fill(one[:cap(one)], 77)
			fill(keys[:cap(keys)], "other")
			if !bytes.Equal(other, want) || !bytes.Equal(made(t, was, d), want) {
				t.Errorf("Of's answer shares memory: %v", other)
			}
		}
	}
}

// TestOfKeepsNoText: what becomes of a text that was handed in is not seen later.
func TestOfKeepsNoText(t *testing.T) {
	key, change := soft("a key")
	filter := made(t, []string{key}, 16)
	want := bytes.Clone(filter)
	yes(t, filter, key)
	change()
	if !bytes.Equal(filter, want) {
		t.Errorf("Of's answer was changed from outside: %v", filter)
	}
	if got := made(t, []string{key}, 16); !bytes.Equal(got, made(t, []string{"#####"}, 16)) {
		t.Errorf("Of, of a text that became another: %v", got)
	}
	if Hash(key) != hashed("#####") {
		t.Errorf("Hash of a text that became another: %d", Hash(key))
	}
	has(t, filter, "#####")
	yes(t, filter, "a key")
}

func TestCheckAndHasChangeNothing(t *testing.T) {
	for _, was := range [][]byte{{}, {7}, {0, 1}, {13, 1}, {7, 0}, {7, 255}, made(t, texts(), 10)} {
		filter := roomy(was, 255)
		for _, key := range texts() {
			if got, want := Check(filter), checked(was); got != want {
				t.Errorf("Check of %v: %v, not %v", was, got, want)
			}
			has(t, filter, key)
		}
		if !untouched(filter, was, 255) {
			t.Errorf("Has changed what it was handed: %v", filter[:len(was)+spare])
		}
	}
}

func TestBothAnswersNewMemory(t *testing.T) {
	wasA, wasB := made(t, some(40)[:20], 10), made(t, some(40)[20:], 10)
	a, b := roomy(wasA, 170), roomy(wasB, 85)
	one, e := Both(a, b)
	other, _ := Both(a, b)
	want := bytes.Clone(other)
	if e != api.OK || !bytes.Equal(one, holding(7, bitsFor(20, 10), some(40)...)) {
		t.Errorf("Both: %v, %v", one, e)
	}
	empty(t, "Both", one)
	fill(one[:cap(one)], 77)
	if !untouched(a, wasA, 170) || !untouched(b, wasB, 85) || !bytes.Equal(other, want) {
		t.Errorf("Both changed what it was handed, or its answer shares memory: %v, %v, %v", a, b, other)
	}
	fill(a[:cap(a)], 1)
	fill(b[:cap(b)], 1)
	if !bytes.Equal(other, want) {
		t.Errorf("Both's answer was changed from outside: %v", other)
	}
}

// TestBothOfOneListAnswersNewMemory: one list that is handed in twice, and two that overlap.
func TestBothOfOneListAnswersNewMemory(t *testing.T) {
	was := made(t, some(20), 10)
	a := roomy(was, 170)
	got, e := Both(a, a)
	if e != api.OK || !bytes.Equal(got, was) {
		t.Errorf("Both of one with itself: %v, %v", got, e)
	}
	fill(got[:cap(got)], 77)
	if !untouched(a, was, 170) {
		t.Errorf("Both's answer shares memory: %v", a[:len(was)+spare])
	}
	l := []byte{3, 3, 16, 64, 1}
	got, e = Both(l[:4], l[1:])
	if e != api.OK || !bytes.Equal(got, []byte{3, 19, 80, 65}) || !bytes.Equal(l, []byte{3, 3, 16, 64, 1}) {
		t.Errorf("Both of two that overlap: %v, %v; they are %v", got, e, l)
	}
}

func TestRefusedCallsChangeNothing(t *testing.T) {
	keys := roomy(some(5), "odd")
	good, long, other, bad := roomy([]byte{7, 1}, 170), roomy([]byte{7, 1, 2}, 170), roomy([]byte{6, 1}, 170), roomy([]byte{13, 1}, 170)
	for range 2 {
		b, e := Of(keys, 0)
		refused(t, "Of, no bits", b, e, api.ErrArg)
		for _, x := range [][]byte{long, other} {
			b, e = Both(good, x)
			refused(t, "Both of unlike ones", b, e, api.ErrArg)
		}
		b, e = Both(good, bad)
		refused(t, "Both of a bad one", b, e, api.ErrBad)
		b, e = Both(bad, good)
		refused(t, "Both of a bad one", b, e, api.ErrBad)
		if got, e := Has(bad, "x"); got || e != api.ErrBad {
			t.Errorf("Has of a bad one: %v, %v", got, e)
		}
	}
	if !untouched(keys, some(5), "odd") || !untouched(good, []byte{7, 1}, 170) || !untouched(long, []byte{7, 1, 2}, 170) || !untouched(other, []byte{6, 1}, 170) || !untouched(bad, []byte{13, 1}, 170) {
		t.Errorf("what was handed in was changed: %q, %v, %v, %v, %v", keys, good, long, other, bad)
	}
}

// TestAnswersHangOnArgumentsAlone asks again behind other calls, and of the same memory with other bytes.
func TestAnswersHangOnArgumentsAlone(t *testing.T) {
	hash, filter := Hash("a"), made(t, some(9), 10)
	Hash("other")
	made(t, texts(), 3)
	Of(nil, 99)
	Has(filter, "other")
	Both(filter, []byte{1})
	if Hash("a") != hash || !bytes.Equal(made(t, some(9), 10), filter) {
		t.Errorf("asked again, Hash and Of answer otherwise")
	}
	key := some(9)[4]
	yes(t, filter, key)
	fill(filter[1:], 0)
	if got, e := Has(filter, key); got || e != api.OK {
		t.Errorf("Has of a filter whose bits became 0: %v, %v", got, e)
	}
	filter[0] = 13
	if got, e := Has(filter, key); got || e != api.ErrBad || Check(filter) != api.ErrBad {
		t.Errorf("Has of a filter that became bad: %v, %v", got, e)
	}
}
