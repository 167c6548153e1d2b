package vfs

import (
	"fmt"
	"math/rand/v2"
	"testing"
)

// These tests play scripts of calls to a file system and to the model, and hold all that can be asked against each other behind each call (P4.1 to P4.7).

// script is n bytes, the same ones for the same seed.
func script(seed uint64, n int) []byte {
	r := rand.New(rand.NewPCG(seed, 6))
	b := make([]byte, n)
	for i := range b {
		b[i] = byte(r.Uint32())
	}
	return b
}

// reader takes bytes off a script, noughts behind its end.
type reader []byte

func (r *reader) take() int {
	if len(*r) == 0 {
		return 0
	}
	b := (*r)[0]
	*r = (*r)[1:]
	return int(b)
}

// name is one of letters, seldom one that may not be.
func (r *reader) name() string {
	switch n := r.take(); {
	case n == 255:
		return ""
	case n == 254:
		return "a b"
	default:
		return letters[n%len(letters)]
	}
}

// number is small, and seldom below 0.
func (r *reader) number() int {
	return r.take()%70 - 1
}

// next is the script's next call, and the script behind it. What the call does is told by the text that it answers.
func next(b []byte) (call func(system) string, rest []byte) {
	r := reader(b)
	what, name, to, n, more := r.take(), r.name(), r.name(), r.number(), r.number()
	tell := func(what string, e ...any) string {
		return fmt.Sprint(what, " ", name, " ", to, " ", n, " ", more, ": ", e)
	}
	call = func(f system) string {
		switch what % 32 {
		case 0, 1, 2, 3, 4:
			return tell("Create", f.Create(name))
		case 5, 6, 7, 8, 9, 10:
			return tell("Append", f.Append(name, counted(max(n, 0)*(1+what/128))))
		case 11:
			return tell("Append", f.Append(name, counted(max(n*more, 0)%200)))
		case 12, 13, 14, 15:
			return tell("Rename", f.Rename(name, to))
		case 16, 17, 18:
			return tell("Remove", f.Remove(name))
		case 19, 20, 21, 22:
			return tell("Sync", f.Sync(name))
		case 23, 24:
			return tell("SyncNames", f.SyncNames())
		case 25:
			return tell("Fuse", f.Fuse(n/4))
		case 26:
			return tell("Safe", f.Safe())
		case 27:
			return tell("Crash", f.Crash(n/8, more))
		case 28, 29:
			return tell("Alter", f.Alter(name, n, byte(more)))
		default:
			if f.On() {
				return ""
			}
			return tell("Crash", f.Crash(n/16, more))
		}
	}
	return call, r
}

// holds plays a script to both.
func holds(t *testing.T, room int, b []byte) {
	t.Helper()
	f, m := fresh(t, room), newModel(room)
	var told string
	for len(b) > 0 {
		var call func(system) string
		call, b = next(b)
		was := look(m)
		got, want := call(f), call(m)
		told += got + "\n"
		if got != want || look(f) != look(m) {
			t.Fatalf("room %d, behind\n%s%s, not %s: of\n%s\ncame\n%s\nnot\n%s", room, told, got, want, was, look(f), look(m))
		}
	}
}

// rooms are such that some scripts often fill them.
func rooms(seed uint64) int {
	return []int{70, 100, 150, 1000, 0}[seed%5]
}

func TestScripts(t *testing.T) {
	for seed := range uint64(120) {
		holds(t, rooms(seed), script(seed, 1000))
	}
}

// TestScriptsReachAll says that the scripts are worth something: they meet one that is off, one with less than nothing left, many steps that are pending.
func TestScriptsReachAll(t *testing.T) {
	off, below, torn, deep := 0, 0, 0, 0
	for seed := range uint64(120) {
		f := fresh(t, rooms(seed))
		for b := script(seed, 1000); len(b) > 0; {
			var call func(system) string
			call, b = next(b)
			pending := f.Pending()
			if told := call(f); len(told) > 5 && told[:5] == "Crash" && pending > 3 {
				torn++
			}
			if !f.On() {
				off++
			}
			if f.Left() < 0 {
				below++
			}
			if f.Pending() > 10 {
				deep++
			}
		}
	}
	if off < 1000 || below < 20 || torn < 200 || deep < 500 {
		t.Errorf("off %d times, below none %d, torn %d, deep %d", off, below, torn, deep)
	}
}

func FuzzScript(f *testing.F) {
	f.Add(100, script(0, 300))
	f.Add(0, script(1, 300))
	f.Add(1<<30, script(2, 300))
	f.Fuzz(func(t *testing.T, room int, b []byte) {
		if room < 0 || room > 1<<30 {
			if g, e := New(room); g != nil || e == 0 {
				t.Fatalf("New(%d): %v, %v", room, g, e)
			}
			return
		}
		holds(t, room, b[:min(len(b), 2000)])
	})
}
