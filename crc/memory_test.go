package crc

import (
	"bytes"
	"testing"

	"stagepost/api"
)

// These are the tests of rule 4: an answer is new memory, and what is handed in stays as it is, its spare room too.

const spare = 170

// roomy is b with spare room behind it that is filled with a byte by which a change is seen.
func roomy(b []byte) []byte {
	all := bytes.Repeat([]byte{spare}, len(b)+32)
	return all[:copy(all, b)]
}

// untouched says whether b has its bytes, and its spare room those of roomy.
func untouched(b, want []byte) bool {
	room := b[len(want):cap(b)]
	return bytes.Equal(b, want) && bytes.Count(room, []byte{spare}) == len(room)
}

func fill(b []byte, c byte) {
	for i := range b {
		b[i] = c
	}
}

// answers are the calls that answer bytes, each at arguments at which it does.
func answers() map[string]func(b []byte) []byte {
	return map[string]func(b []byte) []byte{
		"Sealed":          Sealed,
		"Opened":          func(b []byte) []byte { out, _ := Opened(b); return out },
		"Burst":           func(b []byte) []byte { out, _ := Burst(b, 0, 9); return out },
		"Burst of no bit": func(b []byte) []byte { out, _ := Burst(b, 3, 0); return out },
	}
}

func TestAnswersAreNewMemory(t *testing.T) {
	for name, call := range answers() {
		for _, n := range []int{0, 1, 5, 40} {
			was := Sealed(mixed(n))
			b := roomy(was)
			one, other := call(b), call(b)
			want := bytes.Clone(other)
			if !untouched(b, was) {
				t.Errorf("%s of %v changed it: %v", name, was, b[:cap(b)])
			}
			if bytes.Contains(one[len(one):cap(one)], []byte{spare}) {
				t.Errorf("%s hands out spare room: %v", name, one[:cap(one)])
			}
			fill(one[:cap(one)], 77)
			if !untouched(b, was) || !bytes.Equal(other, want) {
				t.Errorf("%s's answer shares memory: %v, %v", name, b[:cap(b)], other)
			}
			fill(b[:cap(b)], 9)
			if !bytes.Equal(other, want) {
				t.Errorf("%s's answer was changed from outside: %v", name, other)
			}
		}
	}
}

func TestSpareRoomIsNotRead(t *testing.T) {
	for _, n := range []int{0, 1, 5, 40} {
		plain, room := mixed(n), roomy(mixed(n))
		if Sum(plain) != Sum(room) || More(5, plain) != More(5, room) {
			t.Errorf("the sum of %d bytes hangs on their spare room", n)
		}
		if !bytes.Equal(Sealed(plain), Sealed(room)) {
			t.Errorf("Sealed of %d bytes hangs on their spare room", n)
		}
		if _, e := Burst(room, 8*n, 1); e != api.ErrArg {
			t.Errorf("Burst turned a bit of the spare room: %v", e)
		}
		if !untouched(room, plain) {
			t.Errorf("what was handed in was changed: %v", room[:cap(room)])
		}
	}
	sealed := Sealed([]byte("abc"))
	for n := range len(sealed) {
		if got, ok := Opened(sealed[:n]); ok || got != nil {
			t.Errorf("Opened read the spare room: %v, %v", got, ok)
		}
	}
}

func TestRefusedCallsChangeNothing(t *testing.T) {
	was := mixed(6)
	b := roomy(was)
	for _, at := range []int{-1, 17, 30, 47, 48} {
		if got, e := Burst(b, at, 1<<32-1); got != nil || e != api.ErrArg {
			t.Errorf("Burst at %d: %v, %v", at, got, e)
		}
	}
	if got, ok := Opened(b); ok || got != nil {
		t.Errorf("Opened: %v, %v", got, ok)
	}
	if !untouched(b, was) {
		t.Errorf("what was handed in was changed: %v", b[:cap(b)])
	}
}

// TestAnswersHangOnArgumentsAlone asks again behind other calls (P7).
func TestAnswersHangOnArgumentsAlone(t *testing.T) {
	b := []byte("some bytes")
	sum, sealed := Sum(b), Sealed(b)
	More(7, []byte("other"))
	Opened([]byte{1, 2, 3})
	Burst(b, 3, 99)
	Burst(b, -3, 99)
	if Sum(b) != sum || !bytes.Equal(Sealed(b), sealed) {
		t.Errorf("asked again, Sum and Sealed answer otherwise")
	}
}
