package wal

import (
	"encoding/binary"
	"fmt"
	"hash/crc32"
	"math/rand/v2"
	"testing"

	"stagepost/api"
	"stagepost/vfs"
)

// These tests play scripts of calls to a wal and to a model of one, each over a file system of its own, and hold all that can be asked against each other behind each call (P5.2 to P5.4).

// log is what can be asked of a wal, and of the model of one.
type log interface {
	Append(l []api.Write) (int, api.Errno)
	Roll() api.Errno
	Drop(below int) api.Errno
	Seq() int
	Segment() int
}

// model is a wal by the chapter's words alone: it asks for one number behind the other, and takes the bytes to pieces by the library.
type model struct {
	f            *vfs.FS
	seq, segment int
	broken       bool
}

// unframed are the records of a segment, as batches; false, if it is altered or one is no batch.
func unframed(b []byte) (l []api.Batch, ok bool) {
	sum := func(b []byte) uint32 { return crc32.Checksum(b, crc32.MakeTable(crc32.Castagnoli)) }
	for len(b) >= 8 {
		size := int(binary.LittleEndian.Uint32(b))
		if binary.LittleEndian.Uint32(b[4:]) != sum(b[:4]) || size > 1<<20 {
			return nil, false
		}
		if len(b) < size+12 {
			break
		}
		record, rest := b[8:8+size], b[8+size:]
		one, e := decoded(record)
		if binary.LittleEndian.Uint32(rest) != sum(record) || e != api.OK {
			return nil, false
		}
		l, b = append(l, one), rest[4:]
	}
	return l, true
}

func openModel(f *vfs.FS, first, seq int) (*model, []api.Batch, api.Errno) {
	if !f.On() {
		return nil, nil, api.ErrOff
	}
	if first < 1 || first > 999999 || seq < 0 || seq > 1<<30 {
		return nil, nil, api.ErrArg
	}
	var all, told []api.Batch
	n := first
	for ; n <= 999999; n++ {
		b, e := f.Read(named(n))
		if e == api.ErrMissing {
			break
		}
		l, ok := unframed(b)
		if !ok {
			return nil, nil, api.ErrCorrupt
		}
		all = append(all, l...)
	}
	last := seq
	for i, b := range all {
		if i > 0 && b.Seq != last+1 || i == 0 && b.Seq > seq+1 {
			return nil, nil, api.ErrCorrupt
		}
		if last = b.Seq; last > seq {
			told = append(told, b)
		}
	}
	if last < seq {
		return nil, nil, api.ErrCorrupt
	}
	if n > 999999 {
		return nil, nil, api.ErrLong
	}
	if f.Create(named(n)) != api.OK || f.SyncNames() != api.OK {
		return nil, nil, api.ErrOff
	}
	return &model{f: f, seq: last, segment: n}, told, api.OK
}

func (m *model) refused() api.Errno {
	if m == nil {
		return api.ErrNil
	}
	m.broken = m.broken || !m.f.On()
	if m.broken {
		return api.ErrOff
	}
	return api.OK
}

// behind is what a call answers behind its raw steps, of which one answered e.
func (m *model) behind(e api.Errno) api.Errno {
	m.broken = !m.f.On()
	return e
}

func (m *model) Append(l []api.Write) (int, api.Errno) {
	if e := m.refused(); e != api.OK {
		return 0, e
	}
	if e := Check(l); e != api.OK {
		return 0, e
	}
	if m.seq == 1<<30 {
		return 0, api.ErrLong
	}
	b := frames(batch(m.seq+1, l...))
	if len(b) > m.f.Left() {
		return 0, api.ErrFull
	}
	e := m.f.Append(named(m.segment), b)
	if e == api.OK {
		e = m.f.Sync(named(m.segment))
	}
	if e != api.OK {
		return 0, m.behind(e)
	}
	m.seq++
	return m.seq, api.OK
}

func (m *model) Roll() api.Errno {
	if e := m.refused(); e != api.OK {
		return e
	}
	if m.segment == 999999 {
		return api.ErrLong
	}
	if _, e := m.f.Read(named(m.segment + 1)); e == api.OK {
		return api.ErrThere
	}
	if m.f.Create(named(m.segment+1)) != api.OK || m.f.SyncNames() != api.OK {
		return m.behind(api.ErrOff)
	}
	m.segment++
	return api.OK
}

func (m *model) Drop(below int) api.Errno {
	if e := m.refused(); e != api.OK {
		return e
	}
	if below > m.segment {
		return api.ErrArg
	}
	some := false
	for n := 1; n < below; n++ {
		switch m.f.Remove(named(n)) {
		case api.OK:
			some = true
		case api.ErrOff:
			return m.behind(api.ErrOff)
		}
	}
	if some {
		return m.behind(m.f.SyncNames())
	}
	return api.OK
}

func (m *model) Seq() int {
	if m == nil {
		return 0
	}
	return m.seq
}

func (m *model) Segment() int {
	if m == nil {
		return 0
	}
	return m.segment
}

// side is a file system, and what goes over it: the latest wal, and the one ahead of it.
type side struct {
	f      *vfs.FS
	w, old log
	open   func(f *vfs.FS, first, seq int) (log, []api.Batch, api.Errno)
}

func sides(t testing.TB, room int) (*side, *side) {
	t.Helper()
	return &side{f: fresh(t, room), w: (*Wal)(nil), old: (*Wal)(nil), open: func(f *vfs.FS, first, seq int) (log, []api.Batch, api.Errno) {
		w, l, e := Open(f, first, seq)
		return w, l, e
	}}, &side{f: fresh(t, room), w: (*model)(nil), old: (*model)(nil), open: func(f *vfs.FS, first, seq int) (log, []api.Batch, api.Errno) {
		m, l, e := openModel(f, first, seq)
		return m, l, e
	}}
}

// tell tells all that can be asked of a side.
func (s *side) tell() string {
	return fmt.Sprintf("Seq %d, Segment %d; %d, %d\n%s", s.w.Seq(), s.w.Segment(), s.old.Seq(), s.old.Segment(), look(s.f))
}

// answer is what came of a call: which it was, its error, and all else that it told.
type answer struct {
	what string
	e    api.Errno
	more string
}

// do does what four bytes of a script say.
func (s *side) do(c [4]byte) answer {
	n, seq := int(c[1])%5+1, int(c[2])%4
	switch c[0] % 24 {
	case 0, 1, 2:
		return s.reopen(1, 0)
	case 3:
		return s.reopen(n, s.w.Seq()-2+seq)
	case 4:
		return s.reopen(999997+n, 0)
	case 5:
		return s.reopen(n-1, seq-1)
	case 6, 7, 8, 9, 10, 11:
		seq, e := s.w.Append(scripted(c))
		return answer{"Append", e, fmt.Sprint(seq)}
	case 12, 13:
		return answer{"Roll", s.w.Roll(), ""}
	case 14:
		return answer{"Drop", s.w.Drop(n), fmt.Sprint(n)}
	case 15:
		return answer{"Roll of the one ahead", s.old.Roll(), ""}
	case 16:
		return answer{"Fuse", s.f.Fuse(int(c[1]) % 12), ""}
	case 17, 18:
		return answer{"Crash", s.f.Crash(int(c[1])%6, int(c[2])%70), ""}
	case 19:
		return answer{"Alter", s.f.Alter(named(n), int(c[2]), c[3]), ""}
	case 20:
		return answer{"Remove", s.f.Remove(named(n)), ""}
	case 21:
		return answer{"Create", s.f.Create(named(n + 1)), ""}
	case 22:
		return answer{"a part of a frame", s.f.Append(named(n), frames(simple(int(c[2]) % 8))[:int(c[3])%21]), ""}
	default:
		if s.f.On() {
			return answer{}
		}
		return answer{"Crash", s.f.Crash(int(c[1])%6, int(c[2])%70), ""}
	}
}

func (s *side) reopen(first, seq int) answer {
	w, l, e := s.open(s.f, first, seq)
	if e == api.OK {
		s.w, s.old = w, s.w
	}
	return answer{"Open", e, fmt.Sprint(first, seq, len(l), l)}
}

// scripted are writes, seldom such as may not be.
func scripted(c [4]byte) []api.Write {
	key, n := fmt.Sprint("key ", c[1]), int(c[2])
	switch {
	case c[3] == 0:
		return many(65)
	case c[3] == 1:
		return list(put(key, ""), del(key))
	case c[3] == 2:
		return nil
	case c[3]%4 == 0:
		return list(del(key), put("k", long(n)))
	default:
		return list(put(key, long(n/4)))
	}
}

// holds plays a script to both sides. It answers how often which call answered which error.
func holds(t testing.TB, room int, b []byte) map[string]int {
	t.Helper()
	w, m := sides(t, room)
	seen := map[string]int{}
	was := m.tell()
	for ; len(b) >= 4; b = b[4:] {
		got, want := w.do([4]byte(b)), m.do([4]byte(b))
		has, should := w.tell(), m.tell()
		if got != want || has != should {
			t.Fatalf("room %d: %v, not %v: of\n%s\ncame\n%s\nnot\n%s", room, got, want, was, has, should)
		}
		was = should
		seen[fmt.Sprintf("%s %d", got.what, got.e)]++
	}
	return seen
}

func TestScripts(t *testing.T) {
	seen := map[string]int{}
	for seed := range uint64(300) {
		r := rand.New(rand.NewPCG(seed, 15))
		b := make([]byte, 800)
		for i := range b {
			b[i] = byte(r.Uint32())
		}
		for what, n := range holds(t, []int{100, 400, 1500, 100000}[seed%4], b) {
			seen[what] += n
		}
	}
	// The scripts are worth something: they meet each error of each call.
	for _, what := range []string{"Open 0", "Open 2", "Open 3", "Open 6", "Open 7", "Append 0", "Append 1", "Append 2", "Append 3", "Append 4", "Append 7", "Append 8", "Append 9", "Roll 0", "Roll 1", "Roll 3", "Roll 7", "Roll 9", "Drop 0", "Drop 1", "Drop 2", "Drop 7", "Roll of the one ahead 7", "Roll of the one ahead 9"} {
		if seen[what] < 20 {
			t.Errorf("%s: %d times", what, seen[what])
		}
	}
}

func FuzzScript(f *testing.F) {
	f.Add(500, []byte("\x00\x00\x00\x00\x06aaa\x07aaa\x0caaa\x06aaa\x10aaa\x00aaa\x11aaa\x00aaa"))
	f.Fuzz(func(t *testing.T, room int, b []byte) {
		holds(t, max(0, min(room, 1<<30)), b[:min(len(b), 800)])
	})
}
