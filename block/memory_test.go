package block

import (
	"bytes"
	"slices"
	"testing"
	"unsafe"

	"stagepost/api"
)

// These are the tests of rule 4 (an answer is new memory, what is handed in stays as it is and is not kept), and of rule 3.

const spare = 8

// odd is an entry by which a change is seen.
func odd() api.Entry { return put("odd", 77) }

// roomy is l with spare room behind it that is filled with something by which a change is seen.
func roomy[T any](l []T, filler T) []T {
	all := slices.Repeat([]T{filler}, len(l)+spare)
	return all[:copy(all, l)]
}

// untouched says whether l has what it had, and its spare room what roomy filled it with.
func untouched[T comparable](l, want []T, filler T) bool {
	return slices.Equal(l, want) && slices.Equal(l[len(l):cap(l)], slices.Repeat([]T{filler}, spare))
}

// spoil writes over all of l, its spare room too.
func spoil[T any](l []T, filler T) {
	for i := range l[:cap(l)] {
		l[:cap(l)][i] = filler
	}
}

// empty says that the spare room behind an answer holds nothing.
func empty[T comparable](t testing.TB, what string, l []T) {
	t.Helper()
	var zero T
	for _, x := range l[len(l):cap(l)] {
		if x != zero {
			t.Errorf("%s: the spare room holds %v", what, x)
		}
	}
}

// soft is a text whose bytes can be written over, as nobody should, and the call that does so.
func soft(s string) (string, func()) {
	b := []byte(s)
	return unsafe.String(unsafe.SliceData(b), len(b)), func() { spoil(b[:len(b):len(b)], 'X') }
}

// softs is l with such texts, and the call that writes over all of them.
func softs(l []api.Entry) ([]api.Entry, func()) {
	var out []api.Entry
	var all []func()
	for _, e := range l {
		key, changeKey := soft(e.Key)
		value, changeValue := soft(e.Value)
		out = append(out, api.Entry{Key: key, Value: value, Seq: e.Seq, Del: e.Del})
		all = append(all, changeKey, changeValue)
	}
	return out, func() {
		for _, change := range all {
			change()
		}
	}
}

// anyLists are lists in order and others, blocks and others.
func anyLists() [][]api.Entry {
	turned := row(20)
	slices.Reverse(turned)
	return append(samples(), turned, list(api.Entry{}), list(put("a", 1), put("a", 1)), append(row(10), put("a", 0)))
}

func TestCheckAndEncodeLeaveWhatTheyAreHanded(t *testing.T) {
	for _, l := range anyLists() {
		handed := roomy(l, odd())
		Check(handed)
		one, e := Encode(handed)
		other, _ := Encode(handed)
		if !untouched(handed, l, odd()) {
			t.Errorf("what was handed in was changed: %s", brief(handed[:cap(handed)]))
		}
		if e != api.OK {
			continue
		}
		empty(t, "Encode", one)
		spoil(one, 77)
		spoil(handed, odd())
		if !bytes.Equal(other, plain(l)) {
			t.Errorf("Encode's answer shares memory: %v", other)
		}
	}
}

func TestDecodeAnswersNewMemory(t *testing.T) {
	for what, l := range blocks() {
		handed := roomy(plain(l), 170)
		one, _ := Decode(handed)
		other, e := Decode(handed)
		if e != api.OK || !untouched(handed, plain(l), 170) {
			t.Errorf("Decode of %s changed what it was handed, %d", what, e)
		}
		empty(t, "Decode", one)
		spoil(one, odd())
		spoil(handed, 77)
		if !slices.Equal(other, l) {
			t.Errorf("Decode's answer of %s shares memory: %s", what, brief(other))
		}
	}
	for _, was := range [][]byte{nil, {0}, {1, 0, 1}, append(plain(row(9)), 0), plain(row(9))[:40]} {
		handed := roomy(was, 170)
		if _, e := Decode(handed); e != api.ErrBad || !untouched(handed, was, 170) {
			t.Errorf("a refused Decode changed what it was handed, %d", e)
		}
	}
}

// TestDecodeDoesNotReadSpareRoom cuts blocks whose ends stand in the spare room then.
func TestDecodeDoesNotReadSpareRoom(t *testing.T) {
	b := plain(crowd(20, 4))
	for n := range b {
		bad(t, "a first part", b[:n])
	}
}

// TestNoneReadsSpareRoom: what stands there may be in any order.
func TestNoneReadsSpareRoom(t *testing.T) {
	all := list(put("a", 5), put("b", 5), put("c", 5), put("c", 9), put("a", 1), api.Entry{})
	l := all[:3]
	answers(t, "Check", Check(l), api.OK)
	if got, e := Merge(lists(l, all[4:5])); e != api.OK || !slices.Equal(got, list(all[0], all[4], all[1], all[2])) {
		t.Errorf("Merge: %s, %d", brief(got), e)
	}
	if got, ok := Find(l, "c", 9); got != all[2] || !ok {
		t.Errorf("Find: %s, %v", brief(list(got)), ok)
	}
	if got := Visible(l, api.Span{}, 9); !slices.Equal(got, l) {
		t.Errorf("Visible: %s", brief(got))
	}
	keep := []int{0, 1, 4}
	if got := Fold(list(put("a", 5), put("a", 3)), keep[:2], false); !slices.Equal(got, list(put("a", 5))) {
		t.Errorf("Fold: %s", brief(got))
	}
	both := lists(l, all[3:5])
	if got, e := Merge(both[:1]); e != api.OK || !slices.Equal(got, l) {
		t.Errorf("Merge of one: %s, %d", brief(got), e)
	}
}

func TestVisibleAnswersNewMemory(t *testing.T) {
	for _, l := range anyLists() {
		handed := roomy(l, odd())
		Find(handed, "a", 5)
		for _, s := range []api.Span{{}, {From: "a"}, {From: "a", To: "k"}, {From: "z", To: "a"}} {
			one, other := Visible(handed, s, 50), Visible(handed, s, 50)
			want := slices.Clone(other)
			empty(t, "Visible", one)
			spoil(one, odd())
			if !slices.Equal(other, want) || !untouched(handed, l, odd()) {
				t.Errorf("Visible's answer shares memory: %s", brief(other))
			}
		}
		was := Visible(handed, api.Span{}, 50)
		want := slices.Clone(was)
		spoil(handed, odd())
		if !slices.Equal(was, want) {
			t.Errorf("Visible's answer was changed from outside: %s", brief(was))
		}
	}
}

func TestMergeAnswersNewMemory(t *testing.T) {
	for seed, l := range anyLists() {
		for _, n := range []int{1, 2, 5} {
			want := dealt(l, n, uint64(seed))
			handed := make([][]api.Entry, n, n+spare)
			for i := range handed {
				handed[i] = roomy(want[i], odd())
			}
			for i := range spare {
				handed[:cap(handed)][n+i] = list(odd())
			}
			one, e := Merge(handed)
			other, _ := Merge(handed)
			for i := range handed {
				if !untouched(handed[i], want[i], odd()) {
					t.Fatalf("Merge changed what it was handed: %s", brief(handed[i]))
				}
			}
			for _, x := range handed[n:cap(handed)] {
				if !slices.Equal(x, list(odd())) {
					t.Fatalf("Merge changed the spare room: %s", brief(x))
				}
			}
			if e != api.OK {
				continue
			}
			empty(t, "Merge", one)
			spoil(one, odd())
			for i := range handed {
				spoil(handed[i], odd())
			}
			if !slices.Equal(other, sorted(l)) {
				t.Errorf("Merge's answer shares memory: %s", brief(other))
			}
		}
	}
}

// TestRefusedMergeLeavesWhatItIsHanded: an error that is met late, behind entries that were gone over (rule 3).
func TestRefusedMergeLeavesWhatItIsHanded(t *testing.T) {
	for want, other := range map[api.Errno][]api.Entry{api.ErrThere: {put("k0009", 5)}, api.ErrOrder: {put("b", 1), put("a", 1)}} {
		handed := lists(roomy(row(10), odd()), roomy(other, odd()))
		for range 2 {
			got, e := Merge(handed)
			if got != nil || e != want || !untouched(handed[0], row(10), odd()) || !untouched(handed[1], other, odd()) {
				t.Errorf("Merge: %s, %d; it was handed %s", brief(got), e, brief(slices.Concat(handed...)))
			}
		}
	}
}

func TestFoldAnswersNewMemory(t *testing.T) {
	for _, l := range anyLists() {
		for _, keep := range [][]int{nil, {5}, {90, 3, 50, 3}} {
			for _, last := range []bool{false, true} {
				handed, seqs := roomy(l, odd()), roomy(keep, 1)
				one, other := Fold(handed, seqs, last), Fold(handed, seqs, last)
				want := slices.Clone(other)
				if !untouched(handed, l, odd()) || !untouched(seqs, keep, 1) {
					t.Fatalf("Fold changed what it was handed: %s, %v", brief(handed), seqs)
				}
				empty(t, "Fold", one)
				spoil(one, odd())
				spoil(handed, odd())
				spoil(seqs, 77)
				if !slices.Equal(other, want) {
					t.Errorf("Fold's answer shares memory: %s", brief(other))
				}
			}
		}
	}
}

// TestAnswersKeepNoText: what becomes of a text that was handed in is not seen in an answer.
func TestAnswersKeepNoText(t *testing.T) {
	l := various()
	handed, change := softs(l)
	key, changeKey := soft("a")
	b, _ := Encode(handed)
	found, _ := Find(handed, key, 8)
	shown := Visible(handed, api.Span{From: key, To: "c"}, 8)
	together, _ := Merge(lists(handed[:4], handed[4:]))
	all := Fold(handed, []int{8}, false)
	bytesOf := plain(l)
	back, _ := Decode(bytesOf)
	change()
	changeKey()
	spoil(bytesOf, 77)
	if !bytes.Equal(b, plain(l)) || found != del("a", 7) || !slices.Equal(shown, seen(l, api.Span{From: "a", To: "c"}, 8)) || !slices.Equal(back, l) {
		t.Errorf("an answer was changed from outside: %s, %s, %s", brief(list(found)), brief(shown), brief(back))
	}
	if !slices.Equal(together, l) || !slices.Equal(all, folded(l, []int{8}, false)) {
		t.Errorf("an answer was changed from outside: %s, %s", brief(together), brief(all))
	}
}
