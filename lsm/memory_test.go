package lsm

import (
	"slices"
	"testing"
	"unsafe"

	"stagepost/api"
)

// These are the tests of rule 4: an answer is new memory, what is handed in stays as it is and is not kept.

const spare = 8

// roomy is l with spare room behind it that is filled with something by which a change is seen.
func roomy[T any](l []T, filler T) []T {
	all := slices.Repeat([]T{filler}, len(l)+spare)
	return all[:copy(all, l)]
}

// untouched says whether l has what it had, and its spare room what roomy filled it with.
func untouched[T comparable](l, want []T, filler T) bool {
	return slices.Equal(l, want) && slices.Equal(l[len(l):cap(l)], slices.Repeat([]T{filler}, spare))
}

// spoil writes over all of l, its spare room too.
func spoil[T any](l []T, filler T) {
	for i := range l[:cap(l)] {
		l[:cap(l)][i] = filler
	}
}

// empty says that the spare room behind an answer holds nothing.
func empty[T comparable](t testing.TB, what string, l []T) {
	t.Helper()
	var zero T
	for _, x := range l[len(l):cap(l)] {
		if x != zero {
			t.Errorf("%s: the spare room holds %v", what, x)
		}
	}
}

// soft is a text whose bytes can be written over, as nobody should, and the call that does so.
func soft(s string) (string, func()) {
	b := []byte(s)
	return unsafe.String(unsafe.SliceData(b), len(b)), func() { spoil(b[:len(b):len(b)], 'X') }
}

// overwrite writes over the bytes of a text that was answered.
func overwrite(s string) {
	if len(s) > 0 {
		spoil(unsafe.Slice(unsafe.StringData(s), len(s)), 'Y')
	}
}

// handed is a batch with spare room, and with texts that can be written over, and the call that writes over all of it.
func handed(b string) ([]api.Write, func()) {
	var l []api.Write
	var all []func()
	for _, w := range writes(b) {
		var one, other func()
		w.Key, one = soft(w.Key)
		w.Value, other = soft(w.Value)
		l, all = append(l, w), append(all, one, other)
	}
	l = roomy(l, api.Write{Key: "odd", Value: "odd"})
	return l, func() {
		for _, change := range all {
			change()
		}
		spoil(l, api.Write{Key: "odd", Value: "odd"})
	}
}

// TestApplyKeepsNothingOfWhatItIsHanded: what becomes of it behind the call is seen nowhere.
func TestApplyKeepsNothingOfWhatItIsHanded(t *testing.T) {
	f, s := begun(t, usual())
	batches := []string{"a=1 b=1 c=", "-a b=2", "c=3 d=3"}
	for i, b := range batches {
		l, change := handed(b)
		if seq, e := s.Apply(l); seq != i+1 || e != api.OK {
			t.Fatalf("Apply: %d, %d", seq, e)
		}
		if !untouched(l, writes(b), api.Write{Key: "odd", Value: "odd"}) {
			t.Errorf("Apply changed what it was handed: %v", l)
		}
		change()
	}
	scans(t, s, "", "", 1, 9, "a=1 b=1 c=")
	scans(t, s, "", "", 3, 9, "b=2 c=3 d=3")
	gets(t, s, "a", 1, "1")
	done(t, s.Flush())
	scans(t, s, "", "", 3, 9, "b=2 c=3 d=3")
	tables(t, s, meta(2, 0, 3, "c", "d"), meta(1, 0, 4, "a", "b"))
	scans(t, again(t, f, usual()), "", "", 3, 9, "b=2 c=3 d=3")
}

// TestApplyThatIsRefusedLeavesWhatItIsHanded, and its spare room isn't read.
func TestApplyThatIsRefusedLeavesWhatItIsHanded(t *testing.T) {
	_, s := begun(t, usual())
	for _, b := range []string{"", "a=1 a=2", "=1"} {
		l := roomy(writes(b), api.Write{Key: "odd"})
		if _, e := s.Apply(l); e == api.OK {
			t.Errorf("Apply of %q", b)
		}
		if !untouched(l, writes(b), api.Write{Key: "odd"}) {
			t.Errorf("Apply changed what it was handed: %v", l)
		}
	}
	l := writes("a=1 b=1 a=2 =3")
	if seq, e := s.Apply(l[:2]); seq != 1 || e != api.OK {
		t.Errorf("Apply of a first part: %d, %d", seq, e)
	}
}

// TestOpenKeepsNothingOfTheSettings: the heights that a store has are its own.
func TestOpenKeepsNothingOfTheSettings(t *testing.T) {
	set := settings(2, 4)
	set.Heights = roomy([]int{2, 1, 3}, 77)
	answers(t, "Check", Check(set), api.OK)
	f := newFS(t, 1<<16)
	s := opened(t, f, set)
	if !untouched(set.Heights, []int{2, 1, 3}, 77) {
		t.Errorf("the heights became %v", set.Heights)
	}
	spoil(set.Heights, 99)
	// Each memtable is a new one.
	for i := range 3 {
		applied(t, s, "a=1 b=2 c=3 d=4")
		gets(t, s, "d", i+1, "4")
		done(t, s.Flush())
		gets(t, s, "d", i+1, "4")
	}
	if !slices.Equal(s.settings.Heights, []int{2, 1, 3}) {
		t.Errorf("the store's heights became %v", s.settings.Heights)
	}
	answers(t, "Check", Check(set), api.ErrArg)
}

// spread is a store with entries in the memtable, on Level 0 and deeper.
func spread(t testing.TB) *Store {
	t.Helper()
	_, s := begun(t, usual())
	flushed(t, s, "a=one b=one c=one d=one e=one")
	compacted(t, s, 0)
	flushed(t, s, "b=two -c")
	applied(t, s, "a=three -e f=three")
	return s
}

// TestGetAnswersNewMemory: who writes over it doesn't change what the store tells.
func TestGetAnswersNewMemory(t *testing.T) {
	s := spread(t)
	for k, want := range map[string]string{"a": "three", "b": "two", "d": "one", "f": "three"} {
		asked, change := soft(k)
		one, there, e := s.Get(asked, 3)
		if one != want || !there || e != api.OK {
			t.Errorf("Get(%s): %q, %v, %d", k, one, there, e)
		}
		other, _, _ := s.Get(asked, 3)
		overwrite(one)
		if other != want {
			t.Errorf("two answers share memory: %q", other)
		}
		change()
		gets(t, s, k, 3, want)
	}
	done(t, s.Flush(), s.Compact(0))
	scans(t, s, "", "", 3, 9, "a=three b=two d=one f=three")
}

func TestScanAnswersNewMemory(t *testing.T) {
	s := spread(t)
	for range 2 {
		from, changeFrom := soft("a")
		to, changeTo := soft("g")
		span := api.Span{From: from, To: to}
		one, _ := s.Scan(span, 3, 9)
		other, e := s.Scan(span, 3, 9)
		empty(t, "Scan", one)
		for _, x := range one {
			overwrite(x.Key)
			overwrite(x.Value)
		}
		spoil(one, api.KV{Key: "odd", Value: "odd"})
		changeFrom()
		changeTo()
		if want := kvs("a=three b=two d=one f=three"); e != api.OK || !slices.Equal(other, want) {
			t.Errorf("Scan's answer shares memory: %v", other)
		}
		scans(t, s, "a", "g", 3, 9, "a=three b=two d=one f=three")
		for _, k := range []string{"a", "b", "d", "f"} {
			if _, there, e := s.Get(k, 3); !there || e != api.OK {
				t.Errorf("Get(%s): %v, %d", k, there, e)
			}
		}
		done(t, s.Flush(), s.Compact(0))
	}
	// What isn't told stands in no spare room.
	for most := range 4 {
		l, _ := s.Scan(api.Span{}, 3, most)
		if empty(t, "Scan", l); len(l) != most {
			t.Errorf("%d, not %d", len(l), most)
		}
	}
}

func TestTablesAnswersNewMemory(t *testing.T) {
	s := spread(t)
	want := metas(meta(5, 0, 2, "b", "c"), meta(3, 1, 4, "a", "d"), meta(4, 1, 1, "e", "e"))
	one, other := s.Tables(), s.Tables()
	empty(t, "Tables", one)
	for _, x := range one {
		overwrite(x.First)
		overwrite(x.Last)
	}
	spoil(one, meta(77, 77, 77, "odd", "odd"))
	if !slices.Equal(other, want) {
		t.Errorf("Tables' answer shares memory: %v", other)
	}
	tables(t, s, want...)
	compacted(t, s, 0, 1)
	if !slices.Equal(other, want) {
		t.Errorf("Tables' answer was changed by a compaction: %v", other)
	}
	scans(t, s, "", "", 3, 9, "a=three b=two d=one f=three")
}

// TestTheFilesAreTheStoresOwn: what was written is not shared with what is read.
func TestTheFilesAreTheStoresOwn(t *testing.T) {
	f, s := begun(t, usual())
	flushed(t, s, "a=one b=two")
	b, e := f.Read(named(1))
	done(t, e)
	spoil(b, 77)
	gets(t, s, "a", 1, "one")
	compacted(t, s, 0)
	scans(t, s, "", "", 1, 9, "a=one b=two")
}
