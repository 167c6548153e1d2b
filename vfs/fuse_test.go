package vfs

import (
	"math"
	"testing"

	"stagepost/api"
)

// These are the tests of P4.5.

// rawSteps are calls that do one raw step each, over a file system that holds a.
func rawSteps() map[string]func(*FS) api.Errno {
	return map[string]func(*FS) api.Errno{
		"Create":             func(f *FS) api.Errno { return f.Create("b") },
		"Append":             func(f *FS) api.Errno { return f.Append("a", []byte("y")) },
		"Rename":             func(f *FS) api.Errno { return f.Rename("a", "b") },
		"Rename onto itself": func(f *FS) api.Errno { return f.Rename("a", "a") },
		"Remove":             func(f *FS) api.Errno { return f.Remove("a") },
		"Sync":               func(f *FS) api.Errno { return f.Sync("a") },
		"SyncNames":          func(f *FS) api.Errno { return f.SyncNames() },
	}
}

func TestFuseOfNone(t *testing.T) {
	for what, call := range rawSteps() {
		f := saved(t, 10, "a", "x")
		done(t, f.Append("a", []byte("y")), f.Create("c"), f.Fuse(0))
		answers(t, what, call(f), api.ErrOff)
		if f.On() || f.Pending() != 2 || f.Steps() != 6 {
			t.Errorf("%s: on %v, pending %d, steps %d", what, f.On(), f.Pending(), f.Steps())
		}
		done(t, f.Crash(2, 0))
		names(t, f, "a", "c")
		reads(t, f, "a", "xy")
	}
}

func TestFuseOfOne(t *testing.T) {
	for what, call := range rawSteps() {
		f := saved(t, 10, "a", "x")
		done(t, f.Fuse(1), call(f))
		if !f.On() || f.Steps() != 5 {
			t.Errorf("%s: on %v, steps %d", what, f.On(), f.Steps())
		}
		answers(t, "the next step", f.SyncNames(), api.ErrOff)
		if f.On() || f.Steps() != 5 {
			t.Errorf("behind %s: on %v, steps %d", what, f.On(), f.Steps())
		}
	}
}

func TestFuseIsBurntByRawStepsAlone(t *testing.T) {
	f := saved(t, 10, "a", "x")
	done(t, f.Fuse(2))
	for range 5 {
		f.Read("a")
		f.Names()
		f.Left()
		f.On()
		f.Pending()
		f.Steps()
		f.Durable("a")
		f.Alter("a", 0, 1)
		f.Append("a", nil)
		f.Create("a")
		f.Remove("b")
	}
	done(t, f.SyncNames(), f.Sync("a"))
	answers(t, "the third step", f.SyncNames(), api.ErrOff)
}

func TestFuseOfMoreThanIsDone(t *testing.T) {
	for _, n := range []int{10, 1000, math.MaxInt} {
		f := fresh(t, 100)
		done(t, f.Fuse(n))
		for range 10 {
			done(t, f.SyncNames())
		}
		if !f.On() || f.Steps() != 10 {
			t.Errorf("Fuse(%d): on %v, steps %d", n, f.On(), f.Steps())
		}
	}
}

func TestFuseIsSetAnew(t *testing.T) {
	f := fresh(t, 100)
	done(t, f.Fuse(0), f.Fuse(1), f.SyncNames(), f.Fuse(3), f.Fuse(2), f.SyncNames(), f.SyncNames())
	answers(t, "the step behind", f.SyncNames(), api.ErrOff)
	counts(t, f, 0, 3, 0)
}

func TestFuseBelowNone(t *testing.T) {
	f := fresh(t, 100)
	for _, n := range []int{-1, -2, math.MinInt} {
		answers(t, "Fuse", f.Fuse(n), api.ErrArg)
	}
	done(t, f.SyncNames(), f.Fuse(1))
	answers(t, "Fuse", f.Fuse(-1), api.ErrArg)
	done(t, f.SyncNames())
	answers(t, "the step behind", f.SyncNames(), api.ErrOff)
}

func TestSafe(t *testing.T) {
	f := fresh(t, 100)
	done(t, f.Safe(), f.Fuse(0), f.Safe(), f.SyncNames(), f.Fuse(2), f.SyncNames(), f.Safe())
	for range 10 {
		done(t, f.SyncNames())
	}
	counts(t, f, 0, 12, 100)
}

// TestOffStaysOff: nothing but Crash turns it on.
func TestOffStaysOff(t *testing.T) {
	f := saved(t, 10, "a", "x")
	done(t, f.Fuse(0))
	answers(t, "Sync", f.Sync("a"), api.ErrOff)
	for what, call := range rawSteps() {
		answers(t, what, call(f), api.ErrOff)
	}
	answers(t, "Append of none", f.Append("a", nil), api.ErrOff)
	answers(t, "Fuse", f.Fuse(5), api.ErrOff)
	answers(t, "Safe", f.Safe(), api.ErrOff)
	done(t, f.Alter("a", 0, 1))
	if f.On() {
		t.Errorf("it is on")
	}
	counts(t, f, 0, 4, 0)
	done(t, f.Crash(0, 0), f.SyncNames())
	reads(t, f, "a", "y")
	counts(t, f, 0, 5, 9)
}

func TestPendingAndSteps(t *testing.T) {
	f := fresh(t, 1000)
	at := func(e api.Errno, pending, steps, left int) {
		t.Helper()
		done(t, e)
		counts(t, f, pending, steps, left)
	}
	at(f.Create("a"), 1, 1, 1000)
	at(f.Append("a", counted(130)), 4, 4, 870)
	at(f.Create("b"), 5, 5, 870)
	at(f.Append("b", counted(10)), 6, 6, 860)
	at(f.Sync("a"), 3, 7, 860)
	at(f.Rename("b", "a"), 4, 8, 990)
	at(f.SyncNames(), 1, 9, 990)
	at(f.Remove("a"), 2, 10, 1000)
	at(f.Crash(1, 0), 0, 10, 990)
	at(f.Remove("a"), 1, 11, 1000)
	at(f.Crash(1, 0), 0, 11, 1000)
}
