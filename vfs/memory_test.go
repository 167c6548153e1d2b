package vfs

import (
	"bytes"
	"slices"
	"testing"
	"unsafe"

	"stagepost/api"
)

// These are the tests of rule 4: an answer is new memory, and what is handed in stays as it is, its spare room too, and is not kept.

const spare = 170

// roomy is b with spare room behind it that is filled with a byte by which a change is seen.
func roomy(b []byte) []byte {
	all := bytes.Repeat([]byte{spare}, len(b)+64)
	return all[:copy(all, b)]
}

// untouched says whether b has its bytes, and its spare room those of roomy.
func untouched(b, want []byte) bool {
	room := b[len(want):cap(b)]
	return bytes.Equal(b, want) && bytes.Count(room, []byte{spare}) == len(room)
}

// spoil writes over all of b, its spare room too.
func spoil(b []byte) {
	b = b[:cap(b)]
	for i := range b {
		b[i] = 77
	}
}

func TestAppendKeepsNothing(t *testing.T) {
	for _, n := range []int{0, 1, 63, 64, 65, 200} {
		f := fresh(t, 1000)
		was := counted(n)
		b := roomy(was)
		done(t, f.Create("a"), f.SyncNames(), f.Append("a", b))
		if !untouched(b, was) {
			t.Errorf("Append of %d bytes changed them: %v", n, b[:cap(b)])
		}
		spoil(b)
		reads(t, f, "a", string(was))
		done(t, f.Sync("a"))
		lasts(t, f, "a", string(was))
		// What is written behind is not seen in what was handed in.
		done(t, f.Append("a", bytes.Repeat([]byte{1}, 64)), f.Crash(0, 5), f.Alter("a", 0, 255))
		if !bytes.Equal(b[:cap(b)], bytes.Repeat([]byte{77}, cap(b))) {
			t.Errorf("what was handed in was changed later: %v", b[:cap(b)])
		}
	}
}

func TestRefusedAppendLeavesWhatItIsHanded(t *testing.T) {
	f := saved(t, 10, "a", "x")
	was := counted(100)
	b := roomy(was)
	answers(t, "Append", f.Append("a", b), api.ErrFull)
	answers(t, "Append", f.Append("c", b), api.ErrMissing)
	answers(t, "Append", f.Append("", b), api.ErrArg)
	if !untouched(b, was) {
		t.Errorf("Append changed what it refused: %v", b[:cap(b)])
	}
}

// TestAppendDoesNotReadSpareRoom: what stands behind the end is neither written nor counted.
func TestAppendDoesNotReadSpareRoom(t *testing.T) {
	f := fresh(t, 3)
	done(t, f.Create("a"), f.Append("a", roomy([]byte("xyz"))))
	reads(t, f, "a", "xyz")
}

func TestReadAndDurableAnswerNewMemory(t *testing.T) {
	for _, n := range []int{0, 1, 10, 64, 300} {
		f := saved(t, 1000, "a", string(counted(n)))
		one, _ := f.Read("a")
		other, _ := f.Read("a")
		this, _ := f.Durable("a")
		that, _ := f.Durable("a")
		for _, b := range [][]byte{one, this} {
			if len(bytes.Trim(b[len(b):cap(b)], "\x00")) > 0 {
				t.Errorf("spare room is handed out: %v", b[:cap(b)])
			}
			spoil(b)
		}
		reads(t, f, "a", string(counted(n)))
		lasts(t, f, "a", string(counted(n)))
		// Nor does what is written, turned or torn later show in what was answered.
		done(t, f.Append("a", []byte("behind")), f.Crash(0, 3))
		if n > 0 {
			done(t, f.Alter("a", 0, 255))
		}
		if !bytes.Equal(other, counted(n)) || !bytes.Equal(that, counted(n)) {
			t.Errorf("an answer was changed later: %v, %v", other, that)
		}
		spoil(other)
		spoil(that)
		if got, _ := f.Read("a"); len(got) != n+3 || string(got[n:]) != "beh" {
			t.Errorf("Read: %v", got)
		}
	}
}

// TestSpareRoomHoldsNothingOfTheFile: what was torn off is not handed out.
func TestSpareRoomHoldsNothingOfTheFile(t *testing.T) {
	f := saved(t, 1000, "a", "x")
	done(t, f.Append("a", bytes.Repeat([]byte{spare}, 64)))
	b, _ := f.Durable("a")
	done(t, f.Crash(0, 2))
	c, _ := f.Read("a")
	for _, x := range [][]byte{b, c} {
		if bytes.Contains(x[len(x):cap(x)], []byte{spare}) {
			t.Errorf("spare room is handed out: %v", x[:cap(x)])
		}
	}
}

func TestNamesAnswersNewMemory(t *testing.T) {
	f := fresh(t, 10)
	done(t, f.Create("b"), f.Create("a"), f.Create("c"))
	one, other := f.Names(), f.Names()
	for i := range one[:cap(one)] {
		one[:cap(one)][i] = "none"
	}
	names(t, f, "a", "b", "c")
	done(t, f.Remove("b"), f.Create("d"))
	if !slices.Equal(other, []string{"a", "b", "c"}) {
		t.Errorf("an answer was changed later: %q", other)
	}
}

// TestNamesAreNotKept hands in texts whose bytes are written over later, as nobody should.
func TestNamesAreNotKept(t *testing.T) {
	text := func(b []byte) string { return unsafe.String(&b[0], len(b)) }
	from, to := []byte("from"), []byte("to")
	f := fresh(t, 10)
	done(t, f.Create(text(from)), f.Append("from", []byte("x")))
	copy(from, "none")
	names(t, f, "from")
	copy(from, "from")
	done(t, f.Rename(text(from), text(to)))
	copy(from, "none")
	copy(to, "no")
	names(t, f, "to")
	done(t, f.SyncNames())
	lasts(t, f, "to", "")
	copy(to, "to")
	done(t, f.Remove(text(to)))
	copy(to, "no")
	done(t, f.SyncNames())
	vain(t, f, "to")
	names(t, f)
}

// TestAnswersHangOnWhatWasDoneAlone does the same to two, one of them beside others (P7).
func TestAnswersHangOnWhatWasDoneAlone(t *testing.T) {
	f, other, g := fresh(t, 300), fresh(t, 300), fresh(t, 300)
	r := script(1, 400)
	for len(r) > 0 {
		var call func(system) string
		call, r = next(r)
		a := call(f)
		other.Create("a")
		other.Append("a", []byte("x"))
		other.Crash(1, 0)
		if b := call(g); a != b || look(f) != look(g) {
			t.Fatalf("the same call answers %s and %s\n%s\n%s", a, b, look(f), look(g))
		}
	}
}
