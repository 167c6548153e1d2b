package vfs

import (
	"bytes"
	"testing"

	"stagepost/api"
)

// TestExamplesOfTheChapter goes through them one behind the other.
func TestExamplesOfTheChapter(t *testing.T) {
	f := fresh(t, 100)
	done(t, f.Create("a"), f.Append("a", bytes.Repeat([]byte("7"), 70)))
	counts(t, f, 3, 3, 30)
	answers(t, "Append of 31 bytes", f.Append("a", make([]byte, 31)), api.ErrFull)

	counts(t, f, 3, 3, 30)
	done(t, f.Sync("a"))
	counts(t, f, 1, 4, 30)
	done(t, f.Crash(0, 0))
	names(t, f)

	done(t, f.Create("a"), f.Append("a", []byte("xy")), f.SyncNames(), f.Crash(0, 1))
	reads(t, f, "a", "x")

	done(t, f.Create("b"), f.Append("b", []byte("z")), f.Sync("b"), f.SyncNames(), f.Rename("b", "a"), f.Crash(0, 0))
	names(t, f, "a", "b")

	done(t, f.Rename("b", "a"), f.SyncNames(), f.Crash(0, 0))
	names(t, f, "a")
	reads(t, f, "a", "z")

	done(t, f.Alter("a", 0, 1))
	reads(t, f, "a", "\x7b")
	answers(t, "Alter behind the last byte", f.Alter("a", 1, 1), api.ErrArg)
	answers(t, "Alter of what is not there", f.Alter("c", 0, 1), api.ErrMissing)

	done(t, f.Fuse(1), f.Create("c"))
	answers(t, "SyncNames", f.SyncNames(), api.ErrOff)
	if f.On() {
		t.Errorf("it is on")
	}
	done(t, f.Crash(9, 9))
	names(t, f, "a", "c")
}
