package sst

import (
	"bytes"
	"slices"
	"testing"
	"unsafe"

	"stagepost/api"
)

// These are the tests of rule 4: an answer is new memory, what is handed in stays as it is and is not kept.

const spare = 8

// odd is an entry by which a change is seen.
func odd() api.Entry { return put("odd", 77) }

// roomy is l with spare room behind it that is filled with something by which a change is seen.
func roomy[T any](l []T, filler T) []T {
	all := slices.Repeat([]T{filler}, len(l)+spare)
	return all[:copy(all, l)]
}

// untouched says whether l has what it had, and its spare room what roomy filled it with.
func untouched[T comparable](l, want []T, filler T) bool {
	return slices.Equal(l, want) && slices.Equal(l[len(l):cap(l)], slices.Repeat([]T{filler}, spare))
}

// spoil writes over all of l, its spare room too.
func spoil[T any](l []T, filler T) {
	for i := range l[:cap(l)] {
		l[:cap(l)][i] = filler
	}
}

// empty says that the spare room behind an answer holds nothing.
func empty[T comparable](t testing.TB, what string, l []T) {
	t.Helper()
	var zero T
	for _, x := range l[len(l):cap(l)] {
		if x != zero {
			t.Errorf("%s: the spare room holds %v", what, x)
		}
	}
}

// soft is a text whose bytes can be written over, as nobody should, and the call that does so.
func soft(s string) (string, func()) {
	b := []byte(s)
	return unsafe.String(unsafe.SliceData(b), len(b)), func() { spoil(b[:len(b):len(b)], 'X') }
}

// softs is l with such texts, and the call that writes over all of them.
func softs(l []api.Entry) ([]api.Entry, func()) {
	var out []api.Entry
	var all []func()
	for _, e := range l {
		key, changeKey := soft(e.Key)
		value, changeValue := soft(e.Value)
		out = append(out, api.Entry{Key: key, Value: value, Seq: e.Seq, Del: e.Del})
		all = append(all, changeKey, changeValue)
	}
	return out, func() {
		for _, change := range all {
			change()
		}
	}
}

func TestBuildLeavesWhatItIsHanded(t *testing.T) {
	lists := samples()
	turned := row(20)
	slices.Reverse(turned)
	lists["out of order"], lists["one that may not be"], lists["none"] = turned, append(row(20), api.Entry{}), nil
	lists["too long an index"] = indexed(t, 1<<20+1)
	for what, l := range lists {
		for _, shape := range append(shapes(), [2]int{0, 10}, [2]int{1, 17}) {
			handed := roomy(l, odd())
			one, e := Build(handed, shape[0], shape[1])
			other, _ := Build(handed, shape[0], shape[1])
			if !untouched(handed, l, odd()) {
				t.Errorf("%s: Build changed what it was handed: %s", what, brief(handed[:cap(handed)]))
			}
			if e != api.OK {
				continue
			}
			empty(t, "Build", one)
			spoil(one, 77)
			spoil(handed, odd())
			if !bytes.Equal(other, rawOf(l, shape[0], shape[1]).bytes()) {
				t.Errorf("%s: Build's answer shares memory", what)
			}
		}
	}
}

// TestBuildKeepsNoText: what becomes of a text that was handed in is not seen in the bytes.
func TestBuildKeepsNoText(t *testing.T) {
	handed, change := softs(various())
	b := built(t, handed, 3, 10)
	change()
	if !bytes.Equal(b, rawOf(various(), 3, 10).bytes()) {
		t.Errorf("Build's answer was changed from outside")
	}
}

// TestBuildDoesNotReadSpareRoom: what stands there may be no entry.
func TestBuildDoesNotReadSpareRoom(t *testing.T) {
	l := append(row(10), api.Entry{}, put("a", 1))
	for n := 1; n <= 10; n++ {
		builds(t, "a first part", l[:n], 4, 10)
	}
}

// TestOpenCopies: the bytes that were handed in are left as they are, and not looked at later.
func TestOpenCopies(t *testing.T) {
	for what, l := range samples() {
		was := built(t, l, 2, 10)
		handed := roomy(was, 170)
		x, y := open(t, handed), open(t, handed)
		same(t, x, modelled(l, 2, 10))
		if !untouched(handed, was, 170) {
			t.Errorf("%s: what was handed to Open was changed", what)
		}
		spoil(handed, 77)
		same(t, y, modelled(l, 2, 10))
		if !slices.Equal(handed[:cap(handed)], slices.Repeat([]byte{77}, cap(handed))) {
			t.Errorf("%s: what was handed to Open was changed later", what)
		}
	}
	for n := range 100 {
		was := built(t, row(9), 2, 10)[n+1:]
		handed := roomy(was, 170)
		if x, e := Open(handed); x != nil || e != api.ErrCorrupt || !untouched(handed, was, 170) {
			t.Errorf("a refused Open: %v, %d; what it was handed is untouched: %v", x != nil, e, untouched(handed, was, 170))
		}
	}
}

// TestOpenDoesNotReadSpareRoom cuts tables whose ends stand in the spare room then.
func TestOpenDoesNotReadSpareRoom(t *testing.T) {
	b := built(t, row(9), 2, 10)
	for n := range b {
		corrupt(t, "a first part", b[:n])
	}
	all := append(slices.Clone(b), b...)
	x := open(t, all[:len(b)])
	same(t, x, modelled(row(9), 2, 10))
}

// TestAnswersAreNewMemory: of two like answers one is written over, the other one and the table stay.
func TestAnswersAreNewMemory(t *testing.T) {
	for what, l := range samples() {
		x := table(t, l, 3, 10)
		for _, s := range []api.Span{{}, {From: "a"}, {From: "a", To: "k"}, {From: "z", To: "a"}} {
			one, _ := x.Scan(s)
			other, e := x.Scan(s)
			empty(t, "Scan", one)
			spoil(one, odd())
			if !slices.Equal(other, within(l, s)) || e != api.OK {
				t.Errorf("%s: Scan's answer shares memory: %s", what, brief(other))
			}
			spoil(other, odd())
		}
		one, _ := x.All()
		other, e := x.All()
		empty(t, "All", one)
		spoil(one, odd())
		if !slices.Equal(other, l) || e != api.OK {
			t.Errorf("%s: All's answer shares memory: %s", what, brief(other))
		}
		spoil(other, odd())
		m := modelled(l, 3, 10)
		m.reads = x.Reads()
		same(t, x, m)
	}
}

// TestNoTextIsKept: what becomes of a key or a span's ends behind a call is seen neither in its answer nor in the table.
func TestNoTextIsKept(t *testing.T) {
	l := various()
	x := table(t, l, 3, 10)
	key, changeKey := soft("b")
	from, changeFrom := soft("a")
	to, changeTo := soft("b\x00")
	found, ok, _ := x.Get(key, 9)
	part, _ := x.Scan(api.Span{From: from, To: to})
	changeKey()
	changeFrom()
	changeTo()
	if found != put("b", 3) || !ok || !slices.Equal(part, within(l, api.Span{From: "a", To: "b\x00"})) {
		t.Errorf("an answer was changed from outside: %s, %s", brief(list(found)), brief(part))
	}
	m := modelled(l, 3, 10)
	m.reads = x.Reads()
	same(t, x, m)
}
