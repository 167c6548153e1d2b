package vfs

import (
	"slices"
	"testing"

	"stagepost/api"
)

// These are the tests of P4.4.

func TestReadIsWhatIsHeld(t *testing.T) {
	f := fresh(t, 100)
	done(t, f.Create("a"))
	reads(t, f, "a", "")
	done(t, f.Append("a", []byte("xy")))
	reads(t, f, "a", "xy")
	done(t, f.Sync("a"), f.Append("a", []byte("z")))
	reads(t, f, "a", "xyz")
	reads(t, f, "a", "xyz")
	counts(t, f, 2, 4, 97)
}

func TestNamesRise(t *testing.T) {
	f := fresh(t, 0)
	all := good()
	for _, name := range all {
		done(t, f.Create(name))
	}
	slices.Sort(all)
	names(t, f, all...)
	done(t, f.Remove(all[0]), f.Rename(all[1], "zz"))
	all = append(all[2:], "zz")
	slices.Sort(all)
	names(t, f, all...)
}

func TestNamesAreThoseHeld(t *testing.T) {
	f := saved(t, 10, "b", "x")
	names(t, f, "b")
	done(t, f.Create("c"), f.Create("a"))
	names(t, f, "a", "b", "c")
	done(t, f.Remove("b"))
	names(t, f, "a", "c")
	done(t, f.Crash(0, 0))
	names(t, f, "b")
	if got := fresh(t, 10).Names(); len(got) != 0 {
		t.Errorf("Names of none: %q", got)
	}
}

func TestLeft(t *testing.T) {
	f := fresh(t, 100)
	done(t, f.Create("a"), f.Append("a", counted(30)))
	counts(t, f, 2, 2, 70)
	done(t, f.Create("b"), f.Append("b", counted(20)), f.Sync("b"))
	counts(t, f, 3, 5, 50)
	done(t, f.Rename("a", "b"))
	counts(t, f, 4, 6, 70)
	done(t, f.Rename("b", "b"), f.Rename("b", "c"))
	counts(t, f, 6, 8, 70)
	done(t, f.Remove("c"))
	counts(t, f, 7, 9, 100)
}

// TestLeftBehindCrashes: what was lost gives room back, what is there again takes it.
func TestLeftBehindCrashes(t *testing.T) {
	f := saved(t, 100, "a", "12345")
	done(t, f.Append("a", counted(50)), f.Crash(0, 0))
	counts(t, f, 0, 5, 95)
	done(t, f.Append("a", counted(70)), f.Crash(1, 3))
	counts(t, f, 0, 7, 28)
	done(t, f.Remove("a"))
	counts(t, f, 1, 8, 100)
	done(t, f.Crash(0, 0))
	counts(t, f, 0, 8, 28)
}

func TestLeftBelowNone(t *testing.T) {
	f := overfull(t)
	names(t, f, "a", "b")
	reads(t, f, "a", "12345678")
	reads(t, f, "b", "abcdefgh")
	counts(t, f, 0, 9, -6)
	done(t, f.Remove("b"))
	counts(t, f, 1, 10, 2)
}

func TestWhatIsToldOfOneThatIsOff(t *testing.T) {
	f := saved(t, 10, "a", "x")
	done(t, f.Create("b"), f.Append("a", []byte("y")), f.Fuse(0))
	answers(t, "Sync", f.Sync("a"), api.ErrOff)
	counts(t, f, 2, 6, 0)
	if got := f.Names(); got != nil {
		t.Errorf("Names: %q", got)
	}
	if b, e := f.Read("a"); b != nil || e != api.ErrOff {
		t.Errorf("Read: %q, %v", b, e)
	}
	lasts(t, f, "a", "x")
	vain(t, f, "b")
	done(t, f.Crash(0, 0))
	counts(t, f, 0, 6, 9)
}
