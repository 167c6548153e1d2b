package vfs

import (
	"bytes"
	"fmt"
	"maps"
	"slices"
	"strings"
	"testing"

	"stagepost/api"
)

// system is what can be asked of a file system, and of the model of one.
type system interface {
	Create(name string) api.Errno
	Append(name string, b []byte) api.Errno
	Rename(from, to string) api.Errno
	Remove(name string) api.Errno
	Sync(name string) api.Errno
	SyncNames() api.Errno
	Read(name string) ([]byte, api.Errno)
	Names() []string
	Left() int
	Fuse(n int) api.Errno
	Safe() api.Errno
	Crash(k, t int) api.Errno
	Alter(name string, at int, bits byte) api.Errno
	Durable(name string) ([]byte, bool)
	Pending() int
	Steps() int
	On() bool
}

// raw is a pending step of the model, with the bytes that it writes.
type raw struct {
	what     string
	file     int
	b        []byte
	name, to string
}

// disk is files by number, and names.
type disk struct {
	files [][]byte
	names map[string]int
}

// model is a file system by the chapter's words alone: what is held is worked out anew each time, from what is durable and all that is pending.
type model struct {
	room, steps int
	fused, off  bool
	fuse        int
	durable     disk
	pending     []raw
}

func newModel(room int) *model {
	return &model{room: room, durable: disk{names: map[string]int{}}}
}

// with is the disk behind these steps.
func (d disk) with(steps []raw) disk {
	d = disk{slices.Clone(d.files), maps.Clone(d.names)}
	for _, s := range steps {
		switch s.what {
		case "write":
			d.files[s.file] = slices.Concat(d.files[s.file], s.b)
		case "naming":
			d.names[s.name] = s.file
		case "move":
			n := d.names[s.name]
			delete(d.names, s.name)
			d.names[s.to] = n
		case "unnaming":
			delete(d.names, s.name)
		}
	}
	return d
}

func (m *model) held() disk {
	return m.durable.with(m.pending)
}

// named is the file that the name names, or why there is none.
func (m *model) named(name string) (int, api.Errno) {
	if m.off {
		return 0, api.ErrOff
	}
	if !mayBe(name) {
		return 0, api.ErrArg
	}
	n, ok := m.held().names[name]
	if !ok {
		return 0, api.ErrMissing
	}
	return n, api.OK
}

func mayBe(name string) bool {
	odd := func(r rune) bool { return r < '!' || r > '~' }
	return len(name) >= 1 && len(name) <= 32 && !strings.ContainsFunc(name, odd)
}

// burn says whether one more raw step is done.
func (m *model) burn() bool {
	if m.fused && m.fuse == 0 {
		m.off = true
		return false
	}
	m.fuse--
	m.steps++
	return true
}

func (m *model) step(s raw) api.Errno {
	if !m.burn() {
		return api.ErrOff
	}
	m.pending = append(slices.Clone(m.pending), s)
	return api.OK
}

func (m *model) sync(due func(raw) bool) api.Errno {
	if !m.burn() {
		return api.ErrOff
	}
	var now, later []raw
	for _, s := range m.pending {
		if due(s) {
			now = append(now, s)
		} else {
			later = append(later, s)
		}
	}
	m.durable, m.pending = m.durable.with(now), later
	return api.OK
}

func (m *model) Create(name string) api.Errno {
	switch _, e := m.named(name); e {
	case api.OK:
		return api.ErrThere
	case api.ErrMissing:
		m.durable.files = append(m.durable.files, nil)
		return m.step(raw{what: "naming", name: name, file: len(m.durable.files) - 1})
	default:
		return e
	}
}

func (m *model) Append(name string, b []byte) api.Errno {
	n, e := m.named(name)
	if e != api.OK {
		return e
	}
	if len(b) > m.Left() {
		return api.ErrFull
	}
	for len(b) > 0 {
		some := min(64, len(b))
		if e := m.step(raw{what: "write", file: n, b: bytes.Clone(b[:some])}); e != api.OK {
			return e
		}
		b = b[some:]
	}
	return api.OK
}

func (m *model) Rename(from, to string) api.Errno {
	if _, e := m.named(to); e == api.ErrOff || e == api.ErrArg {
		return e
	}
	if _, e := m.named(from); e != api.OK {
		return e
	}
	return m.step(raw{what: "move", name: from, to: to})
}

func (m *model) Remove(name string) api.Errno {
	if _, e := m.named(name); e != api.OK {
		return e
	}
	return m.step(raw{what: "unnaming", name: name})
}

func (m *model) Sync(name string) api.Errno {
	n, e := m.named(name)
	if e != api.OK {
		return e
	}
	return m.sync(func(s raw) bool { return s.what == "write" && s.file == n })
}

func (m *model) SyncNames() api.Errno {
	if m.off {
		return api.ErrOff
	}
	return m.sync(func(s raw) bool { return s.what != "write" })
}

func (m *model) Read(name string) ([]byte, api.Errno) {
	n, e := m.named(name)
	if e != api.OK {
		return nil, e
	}
	return m.held().files[n], api.OK
}

func (m *model) Names() []string {
	if m.off {
		return nil
	}
	return slices.Sorted(maps.Keys(m.held().names))
}

func (m *model) Left() int {
	if m.off {
		return 0
	}
	left, d := m.room, m.held()
	for _, n := range d.names {
		left -= len(d.files[n])
	}
	return left
}

func (m *model) Fuse(n int) api.Errno {
	if m.off {
		return api.ErrOff
	}
	if n < 0 {
		return api.ErrArg
	}
	m.fused, m.fuse = true, n
	return api.OK
}

func (m *model) Safe() api.Errno {
	if m.off {
		return api.ErrOff
	}
	m.fused = false
	return api.OK
}

func (m *model) Crash(k, t int) api.Errno {
	if k < 0 || t < 0 {
		return api.ErrArg
	}
	k = min(k, len(m.pending))
	kept := slices.Clone(m.pending[:k])
	if k < len(m.pending) && m.pending[k].what == "write" {
		torn := m.pending[k]
		torn.b = torn.b[:min(t, len(torn.b)-1)]
		kept = append(kept, torn)
	}
	m.durable, m.pending = m.durable.with(kept), nil
	m.off, m.fused = false, false
	return api.OK
}

func (m *model) Alter(name string, at int, bits byte) api.Errno {
	if !mayBe(name) {
		return api.ErrArg
	}
	n, ok := m.durable.names[name]
	if !ok {
		return api.ErrMissing
	}
	if at < 0 || at >= len(m.durable.files[n]) {
		return api.ErrArg
	}
	m.durable = disk{slices.Clone(m.durable.files), m.durable.names}
	m.durable.files[n] = bytes.Clone(m.durable.files[n])
	m.durable.files[n][at] ^= bits
	return api.OK
}

func (m *model) Durable(name string) ([]byte, bool) {
	n, ok := m.durable.names[name]
	if !ok {
		return nil, false
	}
	return m.durable.files[n], true
}

func (m *model) Pending() int { return len(m.pending) }
func (m *model) Steps() int   { return m.steps }
func (m *model) On() bool     { return !m.off }

// letters are the names of which scripts speak.
var letters = []string{"a", "b", "c", "d"}

// look tells all that can be asked of a file system without changing it.
func look(f system) string {
	text := fmt.Sprintf("on %v, left %d, pending %d, steps %d, names %q", f.On(), f.Left(), f.Pending(), f.Steps(), f.Names())
	for _, name := range letters {
		b, e := f.Read(name)
		d, ok := f.Durable(name)
		text += fmt.Sprintf("\n%s: %x %d, durable %x %v", name, b, e, d, ok)
	}
	return text
}

// fresh is a new file system.
func fresh(t *testing.T, room int) *FS {
	t.Helper()
	f, e := New(room)
	if e != api.OK || f == nil {
		t.Fatalf("New(%d): %v, %v", room, f, e)
	}
	return f
}

// done says that nothing of this was refused.
func done(t *testing.T, all ...api.Errno) {
	t.Helper()
	for i, e := range all {
		if e != api.OK {
			t.Fatalf("the call %d: %v", i, e)
		}
	}
}

// answers says that a call answered this.
func answers(t *testing.T, what string, got, want api.Errno) {
	t.Helper()
	if got != want {
		t.Errorf("%s: %d, not %d", what, got, want)
	}
}

// names says that just these names are held.
func names(t *testing.T, f system, want ...string) {
	t.Helper()
	if got := f.Names(); !slices.Equal(got, want) {
		t.Errorf("Names: %q, not %q", got, want)
	}
}

// reads says that the file holds this.
func reads(t *testing.T, f system, name, want string) {
	t.Helper()
	if got, e := f.Read(name); e != api.OK || string(got) != want {
		t.Errorf("Read(%s): %q, %v; not %q", name, got, e, want)
	}
}

// lasts says that this of the file is durable.
func lasts(t *testing.T, f system, name, want string) {
	t.Helper()
	if got, ok := f.Durable(name); !ok || string(got) != want {
		t.Errorf("Durable(%s): %q, %v; not %q", name, got, ok, want)
	}
}

// vain says that the name durably names nothing.
func vain(t *testing.T, f system, name string) {
	t.Helper()
	if got, ok := f.Durable(name); ok || got != nil {
		t.Errorf("Durable(%s): %q, %v; not none", name, got, ok)
	}
}

// counts says how many steps are pending and were done, and what is left.
func counts(t *testing.T, f system, pending, steps, left int) {
	t.Helper()
	if f.Pending() != pending || f.Steps() != steps || f.Left() != left {
		t.Errorf("Pending %d, Steps %d, Left %d; not %d, %d, %d", f.Pending(), f.Steps(), f.Left(), pending, steps, left)
	}
}

// saved is a file system with one file, all of which is durable.
func saved(t *testing.T, room int, name, holds string) *FS {
	t.Helper()
	f := fresh(t, room)
	done(t, f.Create(name), f.Append(name, []byte(holds)), f.Sync(name), f.SyncNames())
	return f
}

// counted are n bytes that tell their places.
func counted(n int) []byte {
	b := make([]byte, n)
	for i := range b {
		b[i] = byte(i)
	}
	return b
}
