package vfs

import (
	"math"
	"testing"

	"stagepost/api"
)

// These are the tests of rule 1 (the order of errors), rule 3 (an error changes nothing) and rule 5 (no file system), for each method.

// calls are all that answers an Errno and has first ErrNil and ErrOff, with arguments that are refused else, and with good ones.
func calls(f *FS) map[string]api.Errno {
	_, read := f.Read("a")
	_, odd := f.Read("")
	_, missing := f.Read("c")
	return map[string]api.Errno{
		"Create":                    f.Create("c"),
		"Create of what is there":   f.Create("a"),
		"Create of no name":         f.Create(""),
		"Append":                    f.Append("a", []byte("x")),
		"Append of none":            f.Append("a", nil),
		"Append of no name":         f.Append("", nil),
		"Append of too much":        f.Append("a", make([]byte, 1000)),
		"Append to what is missing": f.Append("c", nil),
		"Rename":                    f.Rename("a", "c"),
		"Rename from no name":       f.Rename("", "c"),
		"Rename to no name":         f.Rename("a", ""),
		"Rename of what is missing": f.Rename("c", "a"),
		"Remove":                    f.Remove("a"),
		"Remove of no name":         f.Remove(""),
		"Remove of what is missing": f.Remove("c"),
		"Sync":                      f.Sync("a"),
		"Sync of no name":           f.Sync(""),
		"Sync of what is missing":   f.Sync("c"),
		"SyncNames":                 f.SyncNames(),
		"Read":                      read,
		"Read of no name":           odd,
		"Read of what is missing":   missing,
		"Fuse":                      f.Fuse(3),
		"Fuse below none":           f.Fuse(-1),
		"Safe":                      f.Safe(),
	}
}

func TestNoFileSystem(t *testing.T) {
	var none FS
	for _, f := range []*FS{nil, {}, &none, new(FS)} {
		for what, e := range calls(f) {
			answers(t, what, e, api.ErrNil)
		}
		for what, e := range map[string]api.Errno{
			"Crash":                     f.Crash(0, 0),
			"Crash below none":          f.Crash(-1, 0),
			"Crash of less than none":   f.Crash(0, -1),
			"Alter":                     f.Alter("a", 0, 1),
			"Alter of no name":          f.Alter("", 0, 1),
			"Alter at no place":         f.Alter("a", -1, 1),
			"Alter at the last of them": f.Alter("a", math.MaxInt, 1),
		} {
			answers(t, what, e, api.ErrNil)
		}
		if b, e := f.Read("a"); b != nil || e != api.ErrNil {
			t.Errorf("Read: %v, %v", b, e)
		}
		if f.Names() != nil {
			t.Errorf("Names: %v", f.Names())
		}
		vain(t, f, "a")
		vain(t, f, "")
		counts(t, f, 0, 0, 0)
		if f.On() {
			t.Errorf("no file system is on")
		}
	}
}

func TestOffComesFirst(t *testing.T) {
	f := saved(t, 10, "a", "x")
	done(t, f.Create("b"), f.Fuse(0))
	answers(t, "Sync", f.Sync("a"), api.ErrOff)
	was := look(f)
	for what, e := range calls(f) {
		answers(t, what, e, api.ErrOff)
	}
	if now := look(f); now != was {
		t.Errorf("what was refused changed\n%s\ninto\n%s", was, now)
	}
	done(t, f.Crash(1, 0))
	names(t, f, "a", "b")
	counts(t, f, 0, 5, 9)
}

// wrong are calls that are refused, each with the first error that applies where several do, over a file system of 10 bytes that holds a with "12345678", durably names b, and has a room that is full but for 2.
func wrong() map[string]struct {
	want api.Errno
	call func(*FS) api.Errno
} {
	type one = struct {
		want api.Errno
		call func(*FS) api.Errno
	}
	return map[string]one{
		"Create of no name":                      {api.ErrArg, func(f *FS) api.Errno { return f.Create("") }},
		"Create of what is there":                {api.ErrThere, func(f *FS) api.Errno { return f.Create("a") }},
		"Append of too much to no name":          {api.ErrArg, func(f *FS) api.Errno { return f.Append(" ", make([]byte, 11)) }},
		"Append of too much to what is missing":  {api.ErrMissing, func(f *FS) api.Errno { return f.Append("b", make([]byte, 11)) }},
		"Append of too much":                     {api.ErrFull, func(f *FS) api.Errno { return f.Append("a", make([]byte, 3)) }},
		"Append of much too much":                {api.ErrFull, func(f *FS) api.Errno { return f.Append("a", make([]byte, 1000)) }},
		"Rename of what is missing, to no name":  {api.ErrArg, func(f *FS) api.Errno { return f.Rename("b", "") }},
		"Rename of no name, to what is missing":  {api.ErrArg, func(f *FS) api.Errno { return f.Rename("", "b") }},
		"Rename of what is missing":              {api.ErrMissing, func(f *FS) api.Errno { return f.Rename("b", "a") }},
		"Rename of what is missing, onto itself": {api.ErrMissing, func(f *FS) api.Errno { return f.Rename("b", "b") }},
		"Remove of no name":                      {api.ErrArg, func(f *FS) api.Errno { return f.Remove("\x7f") }},
		"Remove of what is missing":              {api.ErrMissing, func(f *FS) api.Errno { return f.Remove("b") }},
		"Sync of no name":                        {api.ErrArg, func(f *FS) api.Errno { return f.Sync("\x20") }},
		"Sync of what is missing":                {api.ErrMissing, func(f *FS) api.Errno { return f.Sync("b") }},
		"Read of no name":                        {api.ErrArg, func(f *FS) api.Errno { _, e := f.Read(""); return e }},
		"Read of what is missing":                {api.ErrMissing, func(f *FS) api.Errno { _, e := f.Read("b"); return e }},
		"Fuse below none":                        {api.ErrArg, func(f *FS) api.Errno { return f.Fuse(-1) }},
		"Crash below none":                       {api.ErrArg, func(f *FS) api.Errno { return f.Crash(-1, 0) }},
		"Crash of less than none":                {api.ErrArg, func(f *FS) api.Errno { return f.Crash(0, -1) }},
		"Alter at no place of no name":           {api.ErrArg, func(f *FS) api.Errno { return f.Alter("", -1, 1) }},
		"Alter of no name":                       {api.ErrArg, func(f *FS) api.Errno { return f.Alter(" ", 0, 1) }},
		"Alter at no place of what is missing":   {api.ErrMissing, func(f *FS) api.Errno { return f.Alter("c", -1, 1) }},
		"Alter at no place":                      {api.ErrArg, func(f *FS) api.Errno { return f.Alter("a", -1, 1) }},
		"Alter behind the last place":            {api.ErrArg, func(f *FS) api.Errno { return f.Alter("a", 7, 1) }},
	}
}

// crowded is what wrong speaks of.
func crowded(t *testing.T) *FS {
	t.Helper()
	f := saved(t, 10, "a", "1234567")
	done(t, f.Create("b"), f.SyncNames(), f.Append("a", []byte("8")), f.Remove("b"))
	return f
}

func TestRefusedCallsChangeNothing(t *testing.T) {
	for what, x := range wrong() {
		f := crowded(t)
		was := look(f)
		answers(t, what, x.call(f), x.want)
		if now := look(f); now != was {
			t.Errorf("%s changed\n%s\ninto\n%s", what, was, now)
		}
		// What is pending is as it was, and in its order.
		done(t, f.Crash(1, 0))
		names(t, f, "a", "b")
		reads(t, f, "a", "12345678")
	}
}

func TestRefusedCallsBurnNoFuse(t *testing.T) {
	for what, x := range wrong() {
		f := crowded(t)
		done(t, f.Fuse(1))
		answers(t, what, x.call(f), x.want)
		done(t, f.SyncNames())
		answers(t, "the step behind "+what, f.SyncNames(), api.ErrOff)
		g := crowded(t)
		done(t, g.Fuse(0))
		answers(t, what+" at a fuse of none", x.call(g), x.want)
		if !g.On() {
			t.Errorf("%s turned it off", what)
		}
	}
}
