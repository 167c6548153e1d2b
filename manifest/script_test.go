package manifest

import (
	"encoding/binary"
	"fmt"
	"hash/crc32"
	"math/rand/v2"
	"strings"
	"testing"

	"stagepost/api"
	"stagepost/vfs"
)

// These tests play scripts of calls to a manifest and to a model of one, each over a file system of its own, and hold all that can be asked against each other behind each call (P10.3, P10.4).

// keeper is what can be asked of a manifest, and of the model of one.
type keeper interface {
	Version() api.Version
	Add(e api.Edit) api.Errno
	File() string
}

// model is a manifest by the chapter's words alone: it takes the bytes to pieces by the library.
type model struct {
	f      *vfs.FS
	n      int
	v      api.Version
	broken bool
}

// unframed are the records of a file; false, if it is altered. What is torn is told beside them.
func unframed(b []byte) (records [][]byte, torn, ok bool) {
	sum := func(b []byte) uint32 { return crc32.Checksum(b, crc32.MakeTable(crc32.Castagnoli)) }
	for len(b) >= 8 {
		size := int(binary.LittleEndian.Uint32(b))
		if binary.LittleEndian.Uint32(b[4:]) != sum(b[:4]) || size > 1<<20 {
			return nil, false, false
		}
		if len(b) < size+12 {
			break
		}
		record, rest := b[8:8+size], b[8+size:]
		if binary.LittleEndian.Uint32(rest) != sum(record) {
			return nil, false, false
		}
		records, b = append(records, record), rest[4:]
	}
	return records, len(b) > 0, true
}

// pointed is the number of the file that `current` names, 0 if it names none.
func pointed(b []byte) int {
	records, torn, ok := unframed(b)
	if !ok || torn || len(records) != 1 {
		return 0
	}
	s := string(records[0])
	n := 0
	for _, c := range strings.TrimPrefix(s, "manifest-") {
		n = (10*n + int(c-'0')) % 10000000
	}
	if n < 1 || n > 999999 || s != named(n) {
		return 0
	}
	return n
}

// versionIn is the version that a file's edits make; false, if it is corrupt.
func versionIn(b []byte) (api.Version, bool) {
	records, _, ok := unframed(b)
	if !ok || len(records) == 0 {
		return api.Version{}, false
	}
	v := one()
	for _, r := range records {
		e, fault := decoded(r)
		if fault != api.OK {
			return v, false
		}
		if v, fault = behindModel(v, e); fault != api.OK {
			return v, false
		}
	}
	return v, true
}

func openModel(f *vfs.FS) (*model, api.Errno) {
	if !f.On() {
		return nil, api.ErrOff
	}
	m := &model{f: f, v: one()}
	if b, e := f.Read("current"); e == api.OK {
		m.n = pointed(b)
		b, e := f.Read(named(m.n))
		if m.n == 0 || e != api.OK {
			return nil, api.ErrCorrupt
		}
		v, ok := versionIn(b)
		if !ok {
			return nil, api.ErrCorrupt
		}
		m.v = v
	}
	if m.n == 999999 {
		return nil, api.ErrLong
	}
	if e := inTurn(byHand(f, m.n, m.v)); e != api.OK {
		return nil, e
	}
	m.n++
	return m, api.OK
}

func (m *model) Add(e api.Edit) api.Errno {
	if m == nil {
		return api.ErrNil
	}
	m.broken = m.broken || !m.f.On()
	if m.broken {
		return api.ErrOff
	}
	if fault := encodable(e); fault != api.OK {
		return fault
	}
	next, fault := behindModel(m.v, e)
	if fault != api.OK {
		return fault
	}
	if len(framesOf(e)) > m.f.Left() {
		return api.ErrFull
	}
	if fault = m.f.Append(m.File(), framesOf(e)); fault == api.OK {
		fault = m.f.Sync(m.File())
	}
	m.broken = !m.f.On()
	if fault == api.OK {
		m.v = next
	}
	return fault
}

func (m *model) Version() api.Version {
	if m == nil {
		return api.Version{}
	}
	return m.v
}

func (m *model) File() string {
	if m == nil {
		return ""
	}
	return named(m.n)
}

// side is a file system, and what goes over it: the latest manifest, and the one ahead of it.
type side struct {
	f      *vfs.FS
	m, old keeper
	open   func(f *vfs.FS) (keeper, api.Errno)
}

func sides(t testing.TB, room int) (*side, *side) {
	t.Helper()
	return &side{f: newFS(t, room), m: (*Manifest)(nil), old: (*Manifest)(nil), open: func(f *vfs.FS) (keeper, api.Errno) {
		m, e := Open(f)
		return m, e
	}}, &side{f: newFS(t, room), m: (*model)(nil), old: (*model)(nil), open: func(f *vfs.FS) (keeper, api.Errno) {
		m, e := openModel(f)
		return m, e
	}}
}

// tell tells all that can be asked of a side.
func (s *side) tell() string {
	return fmt.Sprintf("%s in %q; %s in %q\n%s", brief(s.m.Version()), s.m.File(), brief(s.old.Version()), s.old.File(), look(s.f))
}

// answer is what came of a call: which it was, and its error.
type answer struct {
	what string
	e    api.Errno
}

// do does what four bytes of a script say.
func (s *side) do(c [4]byte) answer {
	n := int(c[1])%5 + 1
	switch c[0] % 24 {
	case 0, 1, 2:
		return s.reopen()
	case 3, 4, 5, 6, 7, 8, 9, 10, 11, 12:
		return answer{"Add", s.m.Add(scripted(s.m.Version(), c))}
	case 13:
		return answer{"Add of the one ahead", s.old.Add(scripted(s.old.Version(), c))}
	case 14:
		return answer{"Fuse", s.f.Fuse(int(c[1]) % 24)}
	case 15:
		return answer{"Safe", s.f.Safe()}
	case 16, 17:
		return answer{"Crash", s.f.Crash(int(c[1])%8, int(c[2])%70)}
	case 18:
		if c[3]%4 > 0 {
			return answer{}
		}
		return answer{"Alter", s.f.Alter([]string{"current", named(n), s.m.File()}[c[1]%3], int(c[2])%60, c[3])}
	case 19:
		return answer{"Remove", s.f.Remove([]string{"current", named(n), "current.new"}[c[2]%3])}
	case 20:
		return answer{"Create", s.f.Create([]string{named(n), "current.new", "other"}[c[2]%3])}
	case 21:
		return s.laid(c)
	case 22:
		return s.torn(c)
	default:
		if s.f.On() {
			return answer{}
		}
		return answer{"Crash", s.f.Crash(int(c[1])%8, int(c[2])%70)}
	}
}

func (s *side) reopen() answer {
	m, e := s.open(s.f)
	if e == api.OK {
		s.m, s.old = m, s.m
	}
	return answer{"Open", e}
}

// laid lays another `current`, of a number that may be the last one, and that one's file.
func (s *side) laid(c [4]byte) answer {
	n := []int{999999, 999998, int(c[2])%4 + 1}[c[1]%3]
	s.f.Remove("current")
	s.f.Create("current")
	s.f.Append("current", pointing(n))
	s.f.Create(named(n))
	return answer{"a file", s.f.Append(named(n), whole(version(1, 2, 3))[:min(len(whole(version(1, 2, 3))), 12+int(c[3])%32)])}
}

// torn puts a frame, or a part of one, behind the manifest's file.
func (s *side) torn(c [4]byte) answer {
	b := framesOf(scripted(s.m.Version(), c))
	if c[3]%2 == 0 {
		b = b[:min(len(b), int(c[2])%32)]
	}
	return answer{"a part of a frame", s.f.Append(s.m.File(), b)}
}

// scripted is an edit of a version, seldom such as doesn't go.
func scripted(v api.Version, c [4]byte) api.Edit {
	e := edit(nil, nil, v.Log, v.Seq, v.Next)
	level := int(c[2]) % 3
	for _, x := range v.Tables {
		if x.Level == level && c[3]%3 == 0 {
			e.Drops = append(e.Drops, x.Number)
		}
	}
	if c[3]%2 == 0 {
		from := string([]byte{'a' + c[1]%24})
		e.Adds, e.Next = metas(meta(v.Next, level, 1+int(c[2]), from, from+long(int(c[2])/4))), v.Next+1
	}
	if c[3]%5 == 0 {
		e.Log, e.Seq = v.Log+1, v.Seq+int(c[1])
	}
	switch c[3] {
	case 1:
		e.Log--
	case 7:
		e.Drops = append(e.Drops, 5)
	case 11:
		e.Drops = make([]int, 1025)
	case 13:
		e.Seq = 1<<30 + 1
	case 17:
		e.Adds = metas(oddMeta())
	}
	return e
}

// holds plays a script to both sides. It answers how often which call answered which error.
func holds(t testing.TB, room int, b []byte) map[string]int {
	t.Helper()
	m, n := sides(t, room)
	seen := map[string]int{}
	was := n.tell()
	for ; len(b) >= 4; b = b[4:] {
		got, want := m.do([4]byte(b)), n.do([4]byte(b))
		has, should := m.tell(), n.tell()
		if got != want || has != should {
			t.Fatalf("room %d: %v, not %v: of\n%s\ncame\n%s\nnot\n%s", room, got, want, was, has, should)
		}
		was = should
		seen[fmt.Sprintf("%s %d", got.what, got.e)]++
	}
	return seen
}

func TestScripts(t *testing.T) {
	seen := map[string]int{}
	for seed := range uint64(400) {
		r := rand.New(rand.NewPCG(seed, 31))
		b := make([]byte, 800)
		for i := range b {
			b[i] = byte(r.Uint32())
		}
		for what, n := range holds(t, []int{150, 500, 1500, 100000}[seed%4], b) {
			seen[what] += n
		}
	}
	// The scripts are worth something: they meet each error of each call.
	for _, what := range []string{"Open 0", "Open 3", "Open 6", "Open 7", "Open 8", "Add 0", "Add 1", "Add 2", "Add 3", "Add 4", "Add 7", "Add 8", "Add of the one ahead 4", "Add of the one ahead 7"} {
		if seen[what] < 20 {
			t.Errorf("%s: %d times", what, seen[what])
		}
	}
}

func FuzzScript(f *testing.F) {
	f.Add(500, []byte("\x00\x00\x00\x00\x04aaf\x05baf\x00aaf\x06caf\x0eaaa\x00aaa\x10aaa\x00aaa"))
	f.Fuzz(func(t *testing.T, room int, b []byte) {
		holds(t, max(0, min(room, 1<<30)), b[:min(len(b), 800)])
	})
}
