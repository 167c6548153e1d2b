package vfs

import (
	"strconv"
	"strings"
	"testing"

	"stagepost/api"
)

// These are the tests of P4.2, and of what a name is.

// good and bad are names at the edges: of 1, 32, 0 and 33 bytes, of the bytes 33, 126, 32 and 127.
func good() []string {
	all := []string{"a", "!", "~", "!~", "wal-000001.log", strings.Repeat("a", 32), strings.Repeat("~", 32), strings.Repeat("!", 32), "/", "..", "A", "0", "\"", "\\"}
	for c := byte(33); c <= 126; c++ {
		all = append(all, "x"+string(rune(c))+"y")
	}
	return all
}

func bad() []string {
	all := []string{"", strings.Repeat("a", 33), strings.Repeat("a", 64), strings.Repeat("a", 1000), "ä", "a\x00", "\xff", "日本"}
	for c := range 256 {
		if c < 33 || c > 126 {
			b := string([]byte{byte(c)})
			all = append(all, b, "a"+b, b+"a", "a"+b+"a", strings.Repeat("a", 31)+b)
		}
	}
	return all
}

func TestNamesThatMayBe(t *testing.T) {
	for _, name := range good() {
		f := fresh(t, 10)
		done(t, f.Create(name), f.Append(name, []byte("x")), f.Sync(name), f.SyncNames(), f.Alter(name, 0, 1), f.Rename(name, name), f.Rename(name, "b"), f.Rename("b", name))
		names(t, f, name)
		reads(t, f, name, "y")
		lasts(t, f, name, "y")
		done(t, f.Remove(name))
		names(t, f)
	}
}

func TestNamesThatMayNotBe(t *testing.T) {
	for _, name := range bad() {
		f := saved(t, 10, "a", "x")
		was := look(f)
		for what, e := range map[string]api.Errno{
			"Create":          f.Create(name),
			"Append":          f.Append(name, []byte("x")),
			"Append of none":  f.Append(name, nil),
			"Rename from":     f.Rename(name, "a"),
			"Rename to":       f.Rename("a", name),
			"Rename of both":  f.Rename(name, name),
			"Rename of other": f.Rename("b", name),
			"Remove":          f.Remove(name),
			"Sync":            f.Sync(name),
			"Alter":           f.Alter(name, 0, 1),
		} {
			answers(t, what+" of "+strconv.Quote(name), e, api.ErrArg)
		}
		if b, e := f.Read(name); b != nil || e != api.ErrArg {
			t.Errorf("Read of %q: %q, %v", name, b, e)
		}
		vain(t, f, name)
		if now := look(f); now != was {
			t.Errorf("the name %q changed\n%s\ninto\n%s", name, was, now)
		}
	}
}

func TestCreate(t *testing.T) {
	f := fresh(t, 10)
	done(t, f.Create("a"))
	counts(t, f, 1, 1, 10)
	names(t, f, "a")
	reads(t, f, "a", "")
	vain(t, f, "a")
	answers(t, "Create of what is there", f.Create("a"), api.ErrThere)
	counts(t, f, 1, 1, 10)
	done(t, f.Append("a", []byte("xy")))
	answers(t, "Create of what has bytes", f.Create("a"), api.ErrThere)
	reads(t, f, "a", "xy")
	done(t, f.Sync("a"), f.SyncNames())
	answers(t, "Create of what is durable", f.Create("a"), api.ErrThere)
	reads(t, f, "a", "xy")
	counts(t, f, 0, 4, 8)
}

func TestCreateBehindRemoveIsANewFile(t *testing.T) {
	f := saved(t, 10, "a", "old")
	done(t, f.Remove("a"), f.Create("a"))
	reads(t, f, "a", "")
	lasts(t, f, "a", "old")
	counts(t, f, 2, 6, 10)
	done(t, f.Append("a", []byte("new")), f.Sync("a"))
	lasts(t, f, "a", "old")
	done(t, f.SyncNames())
	lasts(t, f, "a", "new")
	reads(t, f, "a", "new")
	counts(t, f, 0, 9, 7)
}

func TestRemove(t *testing.T) {
	f := saved(t, 10, "a", "xy")
	done(t, f.Create("b"), f.Append("b", []byte("z")), f.Remove("a"))
	names(t, f, "b")
	lasts(t, f, "a", "xy")
	counts(t, f, 3, 7, 9)
	answers(t, "Remove of what was removed", f.Remove("a"), api.ErrMissing)
	answers(t, "Remove of what never was", f.Remove("c"), api.ErrMissing)
	done(t, f.Remove("b"))
	names(t, f)
	// Four are pending: b's naming, its write, and two unnamings.
	counts(t, f, 4, 8, 10)
	done(t, f.SyncNames())
	vain(t, f, "a")
	vain(t, f, "b")
	// The write of b's file was not synced, though nobody names it any more.
	counts(t, f, 1, 9, 10)
	done(t, f.Crash(5, 5))
	names(t, f)
	counts(t, f, 0, 9, 10)
}

func TestRenameOntoNoName(t *testing.T) {
	f := saved(t, 10, "a", "xy")
	done(t, f.Rename("a", "b"))
	names(t, f, "b")
	reads(t, f, "b", "xy")
	lasts(t, f, "a", "xy")
	vain(t, f, "b")
	counts(t, f, 1, 5, 8)
	answers(t, "Rename of what was moved", f.Rename("a", "c"), api.ErrMissing)
	answers(t, "Rename of what was moved, onto itself", f.Rename("a", "a"), api.ErrMissing)
	done(t, f.SyncNames())
	lasts(t, f, "b", "xy")
	vain(t, f, "a")
	counts(t, f, 0, 6, 8)
}

func TestRenameOntoAHeldName(t *testing.T) {
	f := saved(t, 10, "a", "xy")
	done(t, f.Create("b"), f.Append("b", []byte("new")), f.Rename("b", "a"))
	names(t, f, "a")
	reads(t, f, "a", "new")
	lasts(t, f, "a", "xy")
	counts(t, f, 3, 7, 7)
	done(t, f.SyncNames())
	lasts(t, f, "a", "")
	reads(t, f, "a", "new")
	done(t, f.Sync("a"))
	lasts(t, f, "a", "new")
	vain(t, f, "b")
	counts(t, f, 0, 9, 7)
}

// TestRenameOntoItself is a raw step, and changes nothing.
func TestRenameOntoItself(t *testing.T) {
	f := saved(t, 10, "a", "xy")
	done(t, f.Rename("a", "a"))
	names(t, f, "a")
	reads(t, f, "a", "xy")
	lasts(t, f, "a", "xy")
	counts(t, f, 1, 5, 8)
	done(t, f.Append("a", []byte("z")), f.Rename("a", "a"), f.SyncNames())
	names(t, f, "a")
	reads(t, f, "a", "xyz")
	lasts(t, f, "a", "xy")
	counts(t, f, 1, 8, 7)
	done(t, f.Crash(0, 0))
	reads(t, f, "a", "xy")
	for k := range 3 {
		done(t, f.Rename("a", "a"), f.Crash(k, 0))
		reads(t, f, "a", "xy")
	}
}

func TestRenameOfWhatWasOnlyJustCreated(t *testing.T) {
	for k := range 5 {
		f := fresh(t, 10)
		done(t, f.Create("a"), f.Append("a", []byte("x")), f.Rename("a", "b"), f.Append("b", []byte("y")))
		reads(t, f, "b", "xy")
		counts(t, f, 4, 4, 8)
		done(t, f.Crash(k, 0))
		switch k {
		case 0:
			names(t, f)
		case 1:
			names(t, f, "a")
			reads(t, f, "a", "")
		case 2:
			names(t, f, "a")
			reads(t, f, "a", "x")
		case 3:
			names(t, f, "b")
			reads(t, f, "b", "x")
		case 4:
			names(t, f, "b")
			reads(t, f, "b", "xy")
		}
	}
}

// TestRenameTakesTheFileAlong moves a file round by three names: what is written behind goes to the one that is named.
func TestRenameTakesTheFileAlong(t *testing.T) {
	f := fresh(t, 100)
	done(t, f.Create("a"), f.Append("a", []byte("a")), f.Create("b"), f.Append("b", []byte("b")))
	done(t, f.Rename("a", "c"), f.Rename("b", "a"), f.Rename("c", "b"))
	done(t, f.Append("a", []byte("1")), f.Append("b", []byte("2")), f.SyncNames())
	reads(t, f, "a", "b1")
	reads(t, f, "b", "a2")
	lasts(t, f, "a", "")
	done(t, f.Sync("a"))
	lasts(t, f, "a", "b1")
	lasts(t, f, "b", "")
	names(t, f, "a", "b")
	counts(t, f, 2, 11, 96)
}

// TestNamesAreTakenByThoseWhoComeLater: a name that was moved away is free.
func TestNamesAreTakenByThoseWhoComeLater(t *testing.T) {
	f := saved(t, 10, "a", "old")
	done(t, f.Rename("a", "b"), f.Create("a"), f.Append("a", []byte("new")))
	reads(t, f, "a", "new")
	reads(t, f, "b", "old")
	counts(t, f, 3, 7, 4)
	done(t, f.Crash(1, 0))
	names(t, f, "b")
	reads(t, f, "b", "old")
}
