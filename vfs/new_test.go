package vfs

import (
	"math"
	"testing"

	"stagepost/api"
)

// These are the tests of P4.1.

func TestNewIsOnAndEmpty(t *testing.T) {
	for _, room := range []int{0, 1, 100, 1<<30 - 1, 1 << 30} {
		f := fresh(t, room)
		counts(t, f, 0, 0, room)
		names(t, f)
		vain(t, f, "a")
		if !f.On() {
			t.Errorf("New(%d) is off", room)
		}
	}
}

func TestNewRefusesRooms(t *testing.T) {
	for _, room := range []int{-1, -2, math.MinInt, 1<<30 + 1, 1 << 31, math.MaxInt} {
		if f, e := New(room); f != nil || e != api.ErrArg {
			t.Errorf("New(%d): %v, %v", room, f, e)
		}
	}
}

func TestNewHasNoFuse(t *testing.T) {
	f := fresh(t, 10)
	for range 1000 {
		done(t, f.SyncNames())
	}
	counts(t, f, 0, 1000, 10)
}

// TestNewOnesShareNothing makes two: what is done to one isn't seen in the other.
func TestNewOnesShareNothing(t *testing.T) {
	f, g := fresh(t, 10), fresh(t, 10)
	done(t, f.Create("a"), f.Append("a", []byte("xy")), f.SyncNames(), f.Fuse(0))
	answers(t, "a step without a fuse left", f.SyncNames(), api.ErrOff)
	counts(t, g, 0, 0, 10)
	names(t, g)
	vain(t, g, "a")
	done(t, g.Create("a"))
	reads(t, g, "a", "")
}

// TestRoomOfNone has room for names, but for no byte.
func TestRoomOfNone(t *testing.T) {
	f := fresh(t, 0)
	done(t, f.Create("a"), f.Append("a", nil), f.Append("a", []byte{}), f.Create("b"))
	answers(t, "Append of one byte", f.Append("a", []byte("x")), api.ErrFull)
	names(t, f, "a", "b")
	counts(t, f, 2, 2, 0)
}

// TestRoomOfAll has the greatest room there is.
func TestRoomOfAll(t *testing.T) {
	f := fresh(t, 1<<30)
	b := make([]byte, 1<<30+1)
	done(t, f.Create("a"))
	answers(t, "Append of more than there is", f.Append("a", b), api.ErrFull)
	done(t, f.Append("a", b[:1000]))
	answers(t, "Append of more than is left", f.Append("a", b[:1<<30-999]), api.ErrFull)
	counts(t, f, 17, 17, 1<<30-1000)
}
