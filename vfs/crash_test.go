package vfs

import (
	"math"
	"testing"

	"stagepost/api"
)

// These are the tests of P4.6.

func TestCrashWithNothingPending(t *testing.T) {
	for _, k := range []int{0, 1, 64, math.MaxInt} {
		for _, n := range []int{0, 1, 64, math.MaxInt} {
			f := saved(t, 10, "a", "xy")
			was := look(f)
			done(t, f.Crash(k, n))
			if now := look(f); now != was {
				t.Errorf("Crash(%d, %d) changed\n%s\ninto\n%s", k, n, was, now)
			}
			g := fresh(t, 10)
			done(t, g.Crash(k, n))
			names(t, g)
			counts(t, g, 0, 0, 10)
		}
	}
}

func TestCrashKeepsTheFirstSteps(t *testing.T) {
	build := func() *FS {
		f := saved(t, 1000, "a", "old")
		done(t, f.Create("b"), f.Append("b", []byte("12")), f.Remove("a"), f.Append("b", counted(65)), f.Rename("b", "a"), f.Append("a", []byte("3")))
		return f
	}
	one, two := "12"+string(counted(64)), "12"+string(counted(65))
	for k, want := range []map[string]string{
		{"a": "old"},
		{"a": "old", "b": ""},
		{"a": "old", "b": "12"},
		{"b": "12"},
		{"b": one},
		{"b": two},
		{"a": two},
		{"a": two + "3"},
		{"a": two + "3"},
	} {
		f := build()
		done(t, f.Crash(k, 0))
		left := 1000
		for name, b := range want {
			reads(t, f, name, b)
			lasts(t, f, name, b)
			left -= len(b)
		}
		if len(f.Names()) != len(want) {
			t.Errorf("Crash(%d, 0): names %q", k, f.Names())
		}
		counts(t, f, 0, 11, left)
	}
	f := build()
	done(t, f.Crash(math.MaxInt, math.MaxInt))
	names(t, f, "a")
	reads(t, f, "a", two+"3")
}

func TestCrashInAWrite(t *testing.T) {
	b := counted(100)
	for n, kept := range map[int]int{0: 0, 1: 1, 2: 2, 62: 62, 63: 63, 64: 63, 65: 63, 1000: 63, math.MaxInt: 63} {
		f := saved(t, 1000, "a", "x")
		done(t, f.Append("a", b), f.Crash(0, n))
		reads(t, f, "a", "x"+string(b[:kept]))
		lasts(t, f, "a", "x"+string(b[:kept]))
		counts(t, f, 0, 6, 999-kept)
	}
	for n, kept := range map[int]int{0: 64, 1: 65, 34: 98, 35: 99, 36: 99, 37: 99, math.MaxInt: 99} {
		f := saved(t, 1000, "a", "x")
		done(t, f.Append("a", b), f.Crash(1, n))
		reads(t, f, "a", "x"+string(b[:kept]))
	}
}

// TestCrashInAWriteOfOneByte keeps none of it: it has just one.
func TestCrashInAWriteOfOneByte(t *testing.T) {
	for _, n := range []int{0, 1, 2, math.MaxInt} {
		f := saved(t, 10, "a", "x")
		done(t, f.Append("a", []byte("y")), f.Crash(0, n))
		reads(t, f, "a", "x")
		done(t, f.Append("a", []byte("y")), f.Crash(1, n))
		reads(t, f, "a", "xy")
	}
}

// TestCrashTearsOneWriteAlone: neither the step behind it, nor a write behind another step.
func TestCrashTearsOneWriteAlone(t *testing.T) {
	f := fresh(t, 100)
	done(t, f.Create("a"), f.Create("b"), f.SyncNames(), f.Append("a", []byte("12")), f.Append("b", []byte("34")), f.Append("a", []byte("56")), f.Crash(0, 1))
	reads(t, f, "a", "1")
	reads(t, f, "b", "")
	done(t, f.Append("a", []byte("78")), f.Append("b", []byte("90")), f.Append("a", []byte("ab")), f.Crash(1, 1))
	reads(t, f, "a", "178")
	reads(t, f, "b", "9")
	done(t, f.Create("c"), f.Append("a", []byte("no")), f.Crash(0, 1))
	names(t, f, "a", "b")
	reads(t, f, "a", "178")
	done(t, f.Rename("a", "a"), f.Append("a", []byte("no")), f.Crash(0, 2))
	reads(t, f, "a", "178")
	done(t, f.Remove("b"), f.Append("a", []byte("no")), f.Crash(0, 2))
	names(t, f, "a", "b")
	reads(t, f, "a", "178")
}

// TestCrashBesideSyncs: what was synced in between is no more pending, and not counted.
func TestCrashBesideSyncs(t *testing.T) {
	for k, want := range []string{"", "5", "5", "56"} {
		f := fresh(t, 100)
		done(t, f.Create("a"), f.Append("a", []byte("12")), f.Create("b"), f.Append("b", []byte("5")), f.Sync("a"), f.SyncNames())
		done(t, f.Create("c"), f.Append("b", []byte("6")))
		counts(t, f, 3, 8, 96)
		done(t, f.Crash(k, 0))
		reads(t, f, "a", "12")
		reads(t, f, "b", want)
		if got := len(f.Names()) == 3; got != (k >= 2) {
			t.Errorf("Crash(%d, 0): names %q", k, f.Names())
		}
	}
}

func TestCrashForgetsFilesWithoutAName(t *testing.T) {
	f := fresh(t, 100)
	done(t, f.Create("a"), f.Append("a", []byte("one")), f.Sync("a"), f.Crash(0, 0))
	names(t, f)
	counts(t, f, 0, 3, 100)
	done(t, f.Create("a"))
	reads(t, f, "a", "")
	done(t, f.SyncNames())
	lasts(t, f, "a", "")
	if len(f.files) != 1 {
		t.Errorf("%d files are kept", len(f.files))
	}
}

// TestFilesAreKeptNoLongerThanTheyCanBeNamed looks inside: a file goes as soon as no Crash can bring it back.
func TestFilesAreKeptNoLongerThanTheyCanBeNamed(t *testing.T) {
	f := fresh(t, 100)
	for range 10 {
		done(t, f.Create("a"), f.Append("a", []byte("one")), f.Create("b"), f.Rename("b", "a"), f.Remove("a"))
	}
	if len(f.files) != 20 {
		t.Errorf("%d files are kept", len(f.files))
	}
	done(t, f.SyncNames())
	if len(f.files) != 0 {
		t.Errorf("%d files are kept", len(f.files))
	}
	counts(t, f, 10, 51, 100)
	done(t, f.Create("a"), f.SyncNames(), f.Remove("a"), f.Crash(10, 0))
	names(t, f, "a")
	counts(t, f, 0, 54, 100)
}

func TestCrashTurnsItOn(t *testing.T) {
	f := saved(t, 100, "a", "x")
	done(t, f.Append("a", []byte("yz")), f.Create("b"), f.Fuse(0))
	answers(t, "Create", f.Create("c"), api.ErrOff)
	done(t, f.Crash(1, 0))
	if !f.On() {
		t.Errorf("it is off")
	}
	names(t, f, "a")
	reads(t, f, "a", "xyz")
	counts(t, f, 0, 6, 97)
	for range 10 {
		done(t, f.SyncNames())
	}
}

func TestCrashTakesTheFuseAway(t *testing.T) {
	for _, n := range []int{0, 1, 5} {
		f := fresh(t, 100)
		done(t, f.Fuse(n), f.Crash(0, 0))
		for range 10 {
			done(t, f.SyncNames())
		}
	}
}

func TestCrashRefusesNumbersBelowNone(t *testing.T) {
	f := saved(t, 100, "a", "x")
	done(t, f.Append("a", []byte("yz")), f.Create("b"), f.Fuse(1))
	was := look(f)
	for _, x := range [][2]int{{-1, 0}, {0, -1}, {-1, -1}, {math.MinInt, 0}, {0, math.MinInt}, {5, -1}, {-1, 5}} {
		answers(t, "Crash", f.Crash(x[0], x[1]), api.ErrArg)
	}
	if now := look(f); now != was {
		t.Errorf("Crash changed\n%s\ninto\n%s", was, now)
	}
	done(t, f.Create("c"))
	answers(t, "Create", f.Create("d"), api.ErrOff)
	answers(t, "Crash of one that is off", f.Crash(-1, 0), api.ErrArg)
	answers(t, "Crash of one that is off", f.Crash(0, -1), api.ErrArg)
	if f.On() || f.Pending() != 3 {
		t.Errorf("a Crash that was refused was done")
	}
	done(t, f.Crash(3, 0))
	names(t, f, "a", "b", "c")
}

// TestCrashBehindCrash: what is there behind one is durable.
func TestCrashBehindCrash(t *testing.T) {
	f := saved(t, 100, "a", "x")
	done(t, f.Append("a", []byte("123")), f.Create("b"), f.Append("b", []byte("456")), f.Crash(2, 2))
	reads(t, f, "b", "45")
	was := look(f)
	for _, k := range []int{0, 1, 5} {
		done(t, f.Crash(k, k))
		if now := look(f); now != was {
			t.Errorf("a second Crash changed\n%s\ninto\n%s", was, now)
		}
	}
	done(t, f.Append("b", []byte("7")))
	reads(t, f, "b", "457")
}

// TestWritesBehindATornOne stand where the torn end was.
func TestWritesBehindATornOne(t *testing.T) {
	f := saved(t, 1000, "a", "x")
	done(t, f.Append("a", counted(200)), f.Crash(1, 5), f.Append("a", []byte("new")))
	reads(t, f, "a", "x"+string(counted(200)[:69])+"new")
	lasts(t, f, "a", "x"+string(counted(200)[:69]))
	done(t, f.Crash(1, 0))
	lasts(t, f, "a", "x"+string(counted(200)[:69])+"new")
}
