package enc

import (
	"bytes"
	"slices"
	"testing"

	"stagepost/api"
)

// These are the tests of rule 4: an answer is new memory, and what is handed in stays as it is, its spare room too.

const spare = 170

// roomy is b with spare room behind it that is filled with a byte by which a change is seen.
func roomy(b []byte) []byte {
	all := bytes.Repeat([]byte{spare}, len(b)+32)
	return all[:copy(all, b)]
}

// untouched says whether b has its bytes, and its spare room those of roomy.
func untouched(b, want []byte) bool {
	behind := b[len(want):cap(b)]
	return bytes.Equal(b, want) && bytes.Count(behind, []byte{spare}) == len(behind)
}

func fill(b []byte, c byte) {
	for i := range b {
		b[i] = c
	}
}

func TestAppendLeavesWhatItIsHanded(t *testing.T) {
	for _, ahead := range [][]byte{nil, {}, {1, 2, 3}} {
		for _, x := range []uint64{0, 300, 1<<64 - 1} {
			b := roomy(ahead)
			got := Append(b, x)
			if !untouched(b, ahead) {
				t.Errorf("Append of %v and %d changed it: %v", ahead, x, b[:cap(b)])
			}
			fill(got[:cap(got)], 77)
			if !untouched(b, ahead) {
				t.Errorf("Append of %v and %d answers its memory: %v", ahead, x, b[:cap(b)])
			}
		}
	}
}

func TestAppendDoesNotLookAtItLater(t *testing.T) {
	b := roomy([]byte{1, 2, 3})
	got := Append(b, 300)
	other := Append(b, 300)
	fill(b[:cap(b)], 9)
	fill(other[:cap(other)], 9)
	if !bytes.Equal(got, []byte{1, 2, 3, 172, 2}) {
		t.Errorf("Append's answer was changed from outside: %v", got)
	}
}

func TestAppendHandsOutNoSpareRoomOfItsArgument(t *testing.T) {
	b := roomy([]byte{1, 2, 3})
	got := Append(b, 300)
	if bytes.Contains(got[len(got):cap(got)], []byte{spare}) {
		t.Errorf("Append's answer has spare room that was handed in: %v", got[:cap(got)])
	}
}

func TestReadDoesNotReadSpareRoom(t *testing.T) {
	b := []byte{172, 2, 1}
	for n, want := range []api.Errno{api.ErrBad, api.ErrBad, api.OK, api.OK} {
		if _, _, e := Read(b[:n]); e != want {
			t.Errorf("Read of %v with spare room: %v", b[:n], e)
		}
		if _, _, e := Small(b[:n], 300); e != want {
			t.Errorf("Small of %v with spare room: %v", b[:n], e)
		}
	}
	if !bytes.Equal(b, []byte{172, 2, 1}) {
		t.Errorf("Read changed what it was handed: %v", b)
	}
}

func TestListsStayAsTheyAre(t *testing.T) {
	wrong := api.Value{Kind: 9, Int: 9, Text: "no value"}
	all := append(tuple(null(), num(7), word("a\x00")), slices.Repeat(tuple(wrong), 20)...)
	was := slices.Clone(all)
	l := all[:3]
	if _, e := Tuple(l); e != api.OK {
		t.Errorf("Tuple read the spare room: %v", e)
	}
	if _, e := Begins(l); e != api.OK {
		t.Errorf("Begins read the spare room: %v", e)
	}
	if Compare(l, was[:3:3]) != 0 || Compare(was[:3:3], l) != 0 {
		t.Errorf("Compare read the spare room")
	}
	if !slices.Equal(all, was) {
		t.Errorf("a list was changed: %v", all)
	}
}

func TestAnswersOfValuesShareNothing(t *testing.T) {
	for n := range api.MaxTuple + 1 {
		s := mustTuple(t, slices.Repeat(tuple(word("a")), n))
		one, _ := Values(s)
		other, _ := Values(s)
		one = one[:cap(one)]
		for i := range one {
			one[i] = num(5)
		}
		if !slices.Equal(other, slices.Repeat(tuple(word("a")), n)) {
			t.Errorf("two answers of Values share memory: %v", other)
		}
		for _, v := range other[len(other):cap(other)] {
			if v != (api.Value{}) {
				t.Errorf("the spare room of an answer of Values was written from outside: %v", v)
			}
		}
	}
}

// TestAnswersHangOnArgumentsAlone asks again behind other calls (P7).
func TestAnswersHangOnArgumentsAlone(t *testing.T) {
	l := tuple(word("\x00"), num(-3))
	first := mustTuple(t, l)
	Tuple(tuple(word("other")))
	Values(text(9))
	Append([]byte{5}, 1<<63)
	Stamp(api.Stamp{Wall: 9})
	if again := mustTuple(t, l); again != first {
		t.Errorf("Tuple answered %q, then %q", first, again)
	}
}
