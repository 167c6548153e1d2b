package vfs

import (
	"bytes"
	"testing"

	"stagepost/api"
)

// These are the tests of P4.3.

func TestAppendInPieces(t *testing.T) {
	for n, pieces := range map[int]int{0: 0, 1: 1, 63: 1, 64: 1, 65: 2, 127: 2, 128: 2, 129: 3, 1000: 16} {
		f := fresh(t, 1000)
		b := counted(n)
		done(t, f.Create("a"), f.Append("a", b))
		reads(t, f, "a", string(b))
		counts(t, f, 1+pieces, 1+pieces, 1000-n)
		// Each piece but the last has 64 bytes: Crash keeps whole pieces.
		for k := range pieces + 2 {
			g := fresh(t, 1000)
			done(t, g.Create("a"), g.SyncNames(), g.Append("a", b), g.Crash(k, 0))
			reads(t, g, "a", string(b[:min(64*k, n)]))
		}
	}
}

func TestAppendOfNone(t *testing.T) {
	f := fresh(t, 10)
	done(t, f.Create("a"), f.Fuse(0), f.Append("a", nil), f.Append("a", []byte{}))
	counts(t, f, 1, 1, 10)
	if !f.On() {
		t.Errorf("Append of none did a raw step")
	}
}

func TestAppendGoesBehindTheEnd(t *testing.T) {
	f := fresh(t, 1000)
	done(t, f.Create("a"))
	var want []byte
	for n := range 30 {
		b := bytes.Repeat([]byte{byte(n)}, n)
		done(t, f.Append("a", b))
		want = append(want, b...)
		if n%7 == 0 {
			done(t, f.Sync("a"))
		}
		reads(t, f, "a", string(want))
	}
}

func TestAppendOfWhatIsLeft(t *testing.T) {
	for _, room := range []int{0, 1, 63, 64, 65, 100, 200} {
		f := fresh(t, room)
		done(t, f.Create("a"), f.Create("b"))
		answers(t, "Append of one byte more", f.Append("a", make([]byte, room+1)), api.ErrFull)
		counts(t, f, 2, 2, room)
		reads(t, f, "a", "")
		done(t, f.Append("a", make([]byte, room)))
		if f.Left() != 0 {
			t.Errorf("Left: %d", f.Left())
		}
		answers(t, "Append of one byte behind all", f.Append("a", []byte("x")), api.ErrFull)
		answers(t, "Append of one byte to another file", f.Append("b", []byte("x")), api.ErrFull)
		done(t, f.Append("b", nil))
		reads(t, f, "a", string(make([]byte, room)))
	}
}

// TestRoomIsThatOfHeldNames: a file that no held name names takes none.
func TestRoomIsThatOfHeldNames(t *testing.T) {
	f := saved(t, 10, "a", "12345678")
	done(t, f.Create("b"))
	answers(t, "Append of too much", f.Append("b", []byte("123")), api.ErrFull)
	done(t, f.Remove("a"), f.Append("b", []byte("1234567890")))
	answers(t, "Append of too much again", f.Append("b", []byte("1")), api.ErrFull)
	done(t, f.Rename("b", "a"), f.Create("b"))
	answers(t, "Append behind a move", f.Append("b", []byte("1")), api.ErrFull)
	done(t, f.Rename("b", "a"), f.Append("a", []byte("1234567890")))
}

// TestAppendWhileTooMuchIsHeld: of less than nothing that is left even no bytes are too long.
func TestAppendWhileTooMuchIsHeld(t *testing.T) {
	f := overfull(t)
	answers(t, "Append of one byte", f.Append("b", []byte("x")), api.ErrFull)
	answers(t, "Append of none", f.Append("b", nil), api.ErrFull)
	done(t, f.Remove("a"), f.Append("b", nil), f.Append("b", []byte("12")))
	answers(t, "Append of one byte more", f.Append("b", []byte("x")), api.ErrFull)
}

// overfull is a file system with a room of 10 and two files of 8 bytes, as the unnaming of one was lost.
func overfull(t *testing.T) *FS {
	t.Helper()
	f := saved(t, 10, "a", "12345678")
	done(t, f.Create("b"), f.SyncNames(), f.Remove("a"), f.Append("b", []byte("abcdefgh")), f.Sync("b"), f.Crash(0, 0))
	return f
}

func TestAppendGoesOffInTheMidst(t *testing.T) {
	b := counted(200)
	for fuse := range 6 {
		f := fresh(t, 1000)
		done(t, f.Create("a"), f.SyncNames(), f.Fuse(fuse))
		want := api.ErrOff
		if fuse >= 4 {
			want = api.OK
		}
		answers(t, "Append", f.Append("a", b), want)
		if f.On() != (want == api.OK) || f.Pending() != min(fuse, 4) || f.Steps() != 2+min(fuse, 4) {
			t.Errorf("behind a fuse of %d: on %v, pending %d, steps %d", fuse, f.On(), f.Pending(), f.Steps())
		}
		done(t, f.Crash(10, 0))
		reads(t, f, "a", string(b[:min(64*fuse, 200)]))
	}
}

func TestSync(t *testing.T) {
	f := fresh(t, 1000)
	done(t, f.Create("a"), f.Create("b"), f.Append("a", counted(70)), f.Append("b", counted(3)), f.Append("a", counted(2)))
	counts(t, f, 6, 6, 925)
	done(t, f.Sync("a"))
	// The namings and the write of the other file stay pending.
	counts(t, f, 3, 7, 925)
	vain(t, f, "a")
	done(t, f.Sync("a"), f.Sync("a"))
	counts(t, f, 3, 9, 925)
	done(t, f.SyncNames())
	counts(t, f, 1, 10, 925)
	lasts(t, f, "a", string(counted(70))+string(counted(2)))
	lasts(t, f, "b", "")
	done(t, f.Sync("b"))
	lasts(t, f, "b", string(counted(3)))
	counts(t, f, 0, 11, 925)
}

// TestSyncIsOfTheFileThatIsNamed: the name may have named another one when it was written.
func TestSyncIsOfTheFileThatIsNamed(t *testing.T) {
	f := fresh(t, 100)
	done(t, f.Create("a"), f.Append("a", []byte("one")), f.Rename("a", "b"), f.Create("a"), f.Append("a", []byte("two")), f.SyncNames())
	done(t, f.Sync("a"))
	lasts(t, f, "a", "two")
	lasts(t, f, "b", "")
	counts(t, f, 1, 7, 94)
	done(t, f.Remove("a"), f.Rename("b", "a"), f.Sync("a"))
	lasts(t, f, "a", "two")
	lasts(t, f, "b", "one")
	done(t, f.SyncNames())
	lasts(t, f, "a", "one")
	vain(t, f, "b")
}

func TestSyncNames(t *testing.T) {
	f := fresh(t, 100)
	done(t, f.SyncNames(), f.Create("a"), f.Append("a", []byte("x")), f.Create("b"), f.Rename("b", "c"), f.Create("d"), f.Remove("d"))
	counts(t, f, 6, 7, 99)
	done(t, f.SyncNames())
	counts(t, f, 1, 8, 99)
	lasts(t, f, "a", "")
	lasts(t, f, "c", "")
	vain(t, f, "b")
	vain(t, f, "d")
	done(t, f.SyncNames())
	counts(t, f, 1, 9, 99)
	done(t, f.Crash(0, 0))
	names(t, f, "a", "c")
	reads(t, f, "a", "")
}

func TestCallsOfNamesThatAreNotHeld(t *testing.T) {
	f := saved(t, 10, "a", "x")
	done(t, f.Remove("a"))
	was := look(f)
	for _, name := range []string{"a", "b", "A", "a.", ".a", "aa"} {
		answers(t, "Append", f.Append(name, []byte("y")), api.ErrMissing)
		answers(t, "Append of none", f.Append(name, nil), api.ErrMissing)
		answers(t, "Append of too much", f.Append(name, make([]byte, 20)), api.ErrMissing)
		answers(t, "Sync", f.Sync(name), api.ErrMissing)
		answers(t, "Remove", f.Remove(name), api.ErrMissing)
		answers(t, "Rename", f.Rename(name, "c"), api.ErrMissing)
		answers(t, "Rename onto itself", f.Rename(name, name), api.ErrMissing)
		if b, e := f.Read(name); b != nil || e != api.ErrMissing {
			t.Errorf("Read(%s): %q, %v", name, b, e)
		}
	}
	if now := look(f); now != was {
		t.Errorf("what was refused changed\n%s\ninto\n%s", was, now)
	}
}
