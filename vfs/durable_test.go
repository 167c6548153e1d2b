package vfs

import (
	"math"
	"testing"

	"stagepost/api"
)

// These are the tests of P4.7.

func TestDurable(t *testing.T) {
	f := fresh(t, 100)
	vain(t, f, "a")
	done(t, f.Create("a"), f.Append("a", []byte("x")), f.Sync("a"))
	vain(t, f, "a")
	done(t, f.SyncNames())
	lasts(t, f, "a", "x")
	done(t, f.Append("a", []byte("y")))
	lasts(t, f, "a", "x")
	done(t, f.Create("b"))
	vain(t, f, "b")
	done(t, f.SyncNames())
	lasts(t, f, "b", "")
	done(t, f.Rename("b", "a"))
	lasts(t, f, "a", "x")
	lasts(t, f, "b", "")
	done(t, f.SyncNames())
	lasts(t, f, "a", "")
	vain(t, f, "b")
	done(t, f.Remove("a"))
	lasts(t, f, "a", "")
	done(t, f.SyncNames())
	vain(t, f, "a")
}

func TestDurableOfNamesThatMayNotBe(t *testing.T) {
	f := saved(t, 100, "a", "x")
	for _, name := range bad() {
		vain(t, f, name)
	}
}

func TestDurableOfOneThatIsOff(t *testing.T) {
	f := saved(t, 100, "a", "x")
	done(t, f.Append("a", []byte("y")), f.Create("b"), f.Fuse(0))
	answers(t, "Sync", f.Sync("a"), api.ErrOff)
	lasts(t, f, "a", "x")
	vain(t, f, "b")
}

func TestAlter(t *testing.T) {
	f := saved(t, 100, "a", "xyz")
	done(t, f.Alter("a", 0, 1))
	reads(t, f, "a", "yyz")
	lasts(t, f, "a", "yyz")
	done(t, f.Alter("a", 2, 0x80))
	reads(t, f, "a", "yy\xfa")
	done(t, f.Alter("a", 1, 255))
	reads(t, f, "a", "y\x86\xfa")
	done(t, f.Alter("a", 1, 255), f.Alter("a", 0, 1), f.Alter("a", 2, 0x80), f.Alter("a", 1, 0))
	reads(t, f, "a", "xyz")
	counts(t, f, 0, 4, 97)
}

func TestAlterAtPlacesThatAreNotDurable(t *testing.T) {
	f := saved(t, 100, "a", "xyz")
	done(t, f.Append("a", []byte("12")), f.Create("b"), f.SyncNames())
	was := look(f)
	for _, at := range []int{-1, math.MinInt, 3, 4, 5, 6, 64, math.MaxInt} {
		answers(t, "Alter", f.Alter("a", at, 1), api.ErrArg)
	}
	for _, at := range []int{-1, 0, 1} {
		answers(t, "Alter of a file without bytes", f.Alter("b", at, 1), api.ErrArg)
	}
	if now := look(f); now != was {
		t.Errorf("Alter changed\n%s\ninto\n%s", was, now)
	}
	done(t, f.Alter("a", 2, 1), f.Sync("a"), f.Alter("a", 3, 1), f.Alter("a", 4, 1))
	reads(t, f, "a", "xy{03")
	lasts(t, f, "a", "xy{03")
}

func TestAlterOfNamesThatAreNotDurable(t *testing.T) {
	f := fresh(t, 100)
	done(t, f.Create("a"), f.Append("a", []byte("x")), f.Sync("a"))
	answers(t, "Alter of what is held alone", f.Alter("a", 0, 1), api.ErrMissing)
	answers(t, "Alter of what is not there", f.Alter("b", 0, 1), api.ErrMissing)
	answers(t, "Alter at no place of what is not there", f.Alter("b", -1, 1), api.ErrMissing)
	answers(t, "Alter at no place of no name", f.Alter("", -1, 1), api.ErrArg)
	reads(t, f, "a", "x")
	done(t, f.SyncNames(), f.Alter("a", 0, 1))
	reads(t, f, "a", "y")
	done(t, f.Remove("a"), f.Alter("a", 0, 1), f.SyncNames())
	answers(t, "Alter of what was removed", f.Alter("a", 0, 1), api.ErrMissing)
}

// TestAlterIsOfTheFileThatIsDurablyNamed: the name may be held for another one.
func TestAlterIsOfTheFileThatIsDurablyNamed(t *testing.T) {
	f := saved(t, 100, "a", "xyz")
	done(t, f.Create("b"), f.Append("b", []byte("pqr")), f.Sync("b"), f.Rename("a", "c"), f.Rename("b", "a"), f.Alter("a", 0, 1))
	reads(t, f, "a", "pqr")
	reads(t, f, "c", "yyz")
	lasts(t, f, "a", "yyz")
	answers(t, "Alter of what is held alone", f.Alter("c", 0, 1), api.ErrMissing)
	done(t, f.Crash(0, 0))
	reads(t, f, "a", "yyz")
}

func TestAlterOfOneThatIsOff(t *testing.T) {
	f := saved(t, 100, "a", "xyz")
	done(t, f.Append("a", []byte("12")), f.Fuse(0))
	answers(t, "Sync", f.Sync("a"), api.ErrOff)
	done(t, f.Alter("a", 0, 1))
	answers(t, "Alter behind what is durable", f.Alter("a", 3, 1), api.ErrArg)
	lasts(t, f, "a", "yyz")
	if f.On() {
		t.Errorf("Alter turned it on")
	}
	done(t, f.Crash(9, 0))
	reads(t, f, "a", "yyz12")
}

// TestAlterStays: behind syncs and crashes the byte is as it was turned.
func TestAlterStays(t *testing.T) {
	f := saved(t, 100, "a", "xyz")
	done(t, f.Append("a", []byte("12")), f.Alter("a", 1, 3), f.Sync("a"), f.Crash(0, 0), f.Crash(3, 3))
	reads(t, f, "a", "xzz12")
}
