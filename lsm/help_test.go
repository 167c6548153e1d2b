package lsm

import (
	"fmt"
	"hash/crc32"
	"maps"
	"slices"
	"strconv"
	"strings"
	"testing"

	"stagepost/api"
	"stagepost/frame"
	"stagepost/manifest"
	"stagepost/sst"
	"stagepost/vfs"
	"stagepost/wal"
)

const maxSeq = 1 << 30

// settings are such with this Top and this Most.
func settings(top, most int, heights ...int) api.Settings {
	return api.Settings{Heights: heights, Per: 2, Bits: 10, Top: top, Most: most}
}

// usual are those of the chapter's examples.
func usual() api.Settings { return settings(2, 4) }

// writes reads a batch: a=1 puts 1 under a, -a deletes a.
func writes(s string) []api.Write {
	var l []api.Write
	for _, word := range strings.Fields(s) {
		key, del := strings.CutPrefix(word, "-")
		key, value, _ := strings.Cut(key, "=")
		l = append(l, api.Write{Key: key, Value: value, Del: del})
	}
	return l
}

// put is a put of a value, or (del) a delete.
func put(key, value string, del bool) api.Write {
	if del {
		value = ""
	}
	return api.Write{Key: key, Value: value, Del: del}
}

// kvs reads keys and values: a=1 b=2.
func kvs(s string) []api.KV {
	var l []api.KV
	for _, w := range writes(s) {
		l = append(l, api.KV{Key: w.Key, Value: w.Value})
	}
	return l
}

// entries reads entries: a@3=x is a put of the batch 3, -a@3 a delete.
func entries(s string) []api.Entry {
	var l []api.Entry
	for _, w := range writes(s) {
		key, seq, _ := strings.Cut(w.Key, "@")
		n, err := strconv.Atoi(seq)
		if err != nil {
			panic(s)
		}
		l = append(l, api.Entry{Key: key, Value: w.Value, Seq: n, Del: w.Del})
	}
	return l
}

// long is a text of n bytes.
func long(n int) string { return strings.Repeat("x", n) }

// key is a text in the order of i.
func key(i int) string { return fmt.Sprintf("k%05d", i) }

// named is the name of a table's file, segment that of a segment of the log.
func named(n int) string   { return fmt.Sprintf("sst-%06d", n) }
func segment(n int) string { return fmt.Sprintf("wal-%06d", n) }

// meta is a table's words.
func meta(number, level, count int, first, last string) api.Meta {
	return api.Meta{Number: number, Level: level, Count: count, First: first, Last: last}
}

func metas(l ...api.Meta) []api.Meta { return l }

// newFS is a new file system.
func newFS(t testing.TB, room int) *vfs.FS {
	t.Helper()
	f, e := vfs.New(room)
	if e != api.OK {
		t.Fatalf("New(%d): %v", room, e)
	}
	return f
}

// done says that nothing of this was refused.
func done(t testing.TB, all ...api.Errno) {
	t.Helper()
	for i, e := range all {
		if e != api.OK {
			t.Fatalf("the call %d: %v", i, e)
		}
	}
}

// answers says that a call answered this.
func answers(t testing.TB, what string, got, want api.Errno) {
	t.Helper()
	if got != want {
		t.Errorf("%s: %d, not %d", what, got, want)
	}
}

// holding lays a file with these bytes into the file system, durably.
func holding(t testing.TB, f *vfs.FS, name string, b []byte) {
	t.Helper()
	done(t, f.Create(name), f.Append(name, b), f.Sync(name), f.SyncNames())
}

// fill leaves just this much room.
func fill(t testing.TB, f *vfs.FS, left int) {
	t.Helper()
	if f.Left() < left {
		t.Fatalf("%d are left, not %d", f.Left(), left)
	}
	holding(t, f, "filler", make([]byte, f.Left()-left))
}

// off turns a file system off.
func off(t testing.TB, f *vfs.FS) {
	t.Helper()
	done(t, f.Fuse(0))
	if e := f.SyncNames(); e != api.ErrOff || f.On() {
		t.Fatalf("it is not off: %v", e)
	}
}

// opened is a store that Open answers.
func opened(t testing.TB, f *vfs.FS, s api.Settings) *Store {
	t.Helper()
	x, e := Open(f, s)
	if e != api.OK || x == nil {
		t.Fatalf("Open: %v, %d\n%s", x != nil, e, look(f))
	}
	return x
}

// begun is a new store over a new file system.
func begun(t testing.TB, s api.Settings) (*vfs.FS, *Store) {
	t.Helper()
	f := newFS(t, 1<<26)
	return f, opened(t, f, s)
}

// again crashes the file system, so that all that is pending is lost, and opens it.
func again(t testing.TB, f *vfs.FS, s api.Settings) *Store {
	t.Helper()
	done(t, f.Crash(0, 0))
	return opened(t, f, s)
}

// applied applies batches, each of which is done.
func applied(t testing.TB, s *Store, batches ...string) {
	t.Helper()
	for _, b := range batches {
		want := s.Seq() + 1
		if seq, e := s.Apply(writes(b)); seq != want || e != api.OK {
			t.Fatalf("Apply of %s: %d, %d; not %d", b, seq, e, want)
		}
	}
}

// flushed applies batches, and flushes them.
func flushed(t testing.TB, s *Store, batches ...string) {
	t.Helper()
	applied(t, s, batches...)
	if e := s.Flush(); e != api.OK {
		t.Fatalf("Flush: %d", e)
	}
}

// compacted compacts levels, one behind the other.
func compacted(t testing.TB, s *Store, levels ...int) {
	t.Helper()
	for _, level := range levels {
		if e := s.Compact(level); e != api.OK {
			t.Fatalf("Compact(%d): %d", level, e)
		}
	}
}

// taken takes a snapshot.
func taken(t testing.TB, s *Store) int {
	t.Helper()
	seq, e := s.Snapshot()
	if e != api.OK || seq != s.Seq() {
		t.Fatalf("Snapshot: %d, %d; the Seq is %d", seq, e, s.Seq())
	}
	return seq
}

// gets says that this stands under the key at seq.
func gets(t testing.TB, s *Store, key string, seq int, want string) {
	t.Helper()
	if value, there, e := s.Get(key, seq); value != want || !there || e != api.OK {
		t.Errorf("Get(%.20q, %d): %.20q, %v, %d; not %.20q", key, seq, value, there, e, want)
	}
}

// lacks says that nothing stands under the key at seq.
func lacks(t testing.TB, s *Store, key string, seq int) {
	t.Helper()
	if value, there, e := s.Get(key, seq); value != "" || there || e != api.OK {
		t.Errorf("Get(%.20q, %d): %.20q, %v, %d; not none", key, seq, value, there, e)
	}
}

// getFails says that Get answers this error, and nothing beside it.
func getFails(t testing.TB, s *Store, key string, seq int, want api.Errno) {
	t.Helper()
	if value, there, e := s.Get(key, seq); value != "" || there || e != want {
		t.Errorf("Get(%.20q, %d): %.20q, %v, %d; not %d", key, seq, value, there, e, want)
	}
}

// scans says what Scan tells.
func scans(t testing.TB, s *Store, from, to string, seq, most int, want string) {
	t.Helper()
	l, e := s.Scan(api.Span{From: from, To: to}, seq, most)
	if e != api.OK || !slices.Equal(l, kvs(want)) {
		t.Errorf("Scan({%q, %q}, %d, %d): %v, %d; not %s", from, to, seq, most, l, e, want)
	}
}

// scanFails says that Scan answers this error, and nothing beside it.
func scanFails(t testing.TB, s *Store, from, to string, seq, most int, want api.Errno) {
	t.Helper()
	if l, e := s.Scan(api.Span{From: from, To: to}, seq, most); l != nil || e != want {
		t.Errorf("Scan({%q, %q}, %d, %d): %v, %d; not %d", from, to, seq, most, l, e, want)
	}
}

// tables says which tables there are.
func tables(t testing.TB, s *Store, want ...api.Meta) {
	t.Helper()
	if got := s.Tables(); !slices.Equal(got, want) {
		t.Errorf("Tables: %v, not %v", got, want)
	}
}

// names says which names with this beginning are held.
func names(t testing.TB, f *vfs.FS, prefix string, want ...string) {
	t.Helper()
	if got := namesOf(f, prefix); !slices.Equal(got, want) {
		t.Errorf("Names: %q, not %q", got, want)
	}
}

func namesOf(f *vfs.FS, prefix string) []string {
	var l []string
	for _, name := range f.Names() {
		if strings.HasPrefix(name, prefix) {
			l = append(l, name)
		}
	}
	return l
}

// look tells all that can be asked of a file system.
func look(f *vfs.FS) string {
	var out strings.Builder
	fmt.Fprintf(&out, "on %v, left %d, pending %d, steps %d, names %q", f.On(), f.Left(), f.Pending(), f.Steps(), f.Names())
	for _, name := range f.Names() {
		b, _ := f.Read(name)
		d, ok := f.Durable(name)
		fmt.Fprintf(&out, "\n%s: %d %08x, durable %d %08x %v", name, len(b), crc32.ChecksumIEEE(b), len(d), crc32.ChecksumIEEE(d), ok)
	}
	return out.String()
}

// asked is what can be asked of a store, and of the model of one.
type asked interface {
	Apply(l []api.Write) (int, api.Errno)
	Get(key string, seq int) (string, bool, api.Errno)
	Scan(span api.Span, seq, most int) ([]api.KV, api.Errno)
	Seq() int
	Snapshot() (int, api.Errno)
	Release(seq int) api.Errno
	Flush() api.Errno
	Due() int
	Compact(level int) api.Errno
	Tables() []api.Meta
	Held() int
	Stopped() api.Errno
}

// tell tells what can be asked of a store: all that it says of itself, and the states around its last Seqs.
func tell(s asked) string {
	var out strings.Builder
	fmt.Fprintf(&out, "Seq %d, Due %d, Held %d, Stopped %d, Tables %v", s.Seq(), s.Due(), s.Held(), s.Stopped(), s.Tables())
	for seq := s.Seq() + 1; seq >= max(-1, s.Seq()-8); seq-- {
		l, e := s.Scan(api.Span{}, seq, 1<<30)
		fmt.Fprintf(&out, "\nat %d: %v, %d", seq, l, e)
	}
	return out.String()
}

// rejects says that a call answers this error, and changes nothing that can be asked, nor a file.
func rejects(t testing.TB, f *vfs.FS, s *Store, what string, call func() api.Errno, want api.Errno) {
	t.Helper()
	was, files := tell(s), look(f)
	if got := call(); got != want {
		t.Errorf("%s: %d, not %d", what, got, want)
	}
	if now := tell(s); now != was {
		t.Errorf("%s was refused, and changed\n%s\ninto\n%s", what, was, now)
	}
	if now := look(f); now != files {
		t.Errorf("%s was refused, and changed\n%s\ninto\n%s", what, files, now)
	}
}

// stoppedBy says that a store is stopped, and answers this error wherever it answers one, and nothing else.
func stoppedBy(t testing.TB, s *Store, want api.Errno) {
	t.Helper()
	n, e := s.Apply(writes("a=1"))
	m, none := s.Apply(nil)
	seq, snap := s.Snapshot()
	if n != 0 || m != 0 || seq != 0 || e != want || none != want || snap != want {
		t.Errorf("it is stopped: Apply %d %d, %d %d; Snapshot %d %d; not %d", n, e, m, none, seq, snap, want)
	}
	for _, at := range []int{-1, 0, 1, 2, maxSeq} {
		getFails(t, s, "a", at, want)
		scanFails(t, s, "", "", at, 9, want)
		scanFails(t, s, "", "", at, -1, want)
		answers(t, "it is stopped: Release", s.Release(at), want)
	}
	for _, level := range []int{-1, 0, 1, 5, 6} {
		answers(t, "it is stopped: Compact", s.Compact(level), want)
	}
	answers(t, "it is stopped: Flush", s.Flush(), want)
	answers(t, "it is stopped: Stopped", s.Stopped(), want)
	if s.Seq() != 0 || s.Due() != 0 || s.Held() != 0 || s.Tables() != nil {
		t.Errorf("it is stopped: Seq %d, Due %d, Held %d, Tables %v", s.Seq(), s.Due(), s.Held(), s.Tables())
	}
}

// tab is a table that is laid by hand.
type tab struct {
	number, level int
	entries       []api.Entry
}

func (x tab) words() api.Meta {
	l := x.entries
	return meta(x.number, x.level, len(l), l[0].Key, l[len(l)-1].Key)
}

func (x tab) bytes(t testing.TB, s api.Settings) []byte {
	t.Helper()
	b, e := sst.Build(x.entries, s.Per, s.Bits)
	if e != api.OK {
		t.Fatalf("Build: %d", e)
	}
	return b
}

// written lays an edit as the one that a manifest has.
func written(t testing.TB, f *vfs.FS, e api.Edit) {
	t.Helper()
	m, fault := manifest.Open(f)
	done(t, fault, m.Add(e), f.SyncNames())
}

// laid is a file system with these tables, as a store with such settings leaves it behind the batch seq; its log begins with the segment 3.
func laid(t testing.TB, s api.Settings, seq int, tabs ...tab) *vfs.FS {
	t.Helper()
	f := newFS(t, 1<<16)
	e := api.Edit{Log: 3, Seq: seq, Next: 1}
	for _, x := range tabs {
		holding(t, f, named(x.number), x.bytes(t, s))
		e.Adds = append(e.Adds, x.words())
		e.Next = max(e.Next, x.number+1)
	}
	written(t, f, e)
	return f
}

// logged lays batches into the log, from its segment first on, behind the batch seq.
func logged(t testing.TB, f *vfs.FS, first, seq int, batches ...string) {
	t.Helper()
	w, _, e := wal.Open(f, first, seq)
	done(t, e)
	for _, b := range batches {
		_, e := w.Append(writes(b))
		done(t, e)
	}
}

// edits are those that the manifest's file has.
func edits(t testing.TB, f *vfs.FS) []api.Edit {
	t.Helper()
	l := namesOf(f, "manifest-")
	if len(l) != 1 {
		t.Fatalf("manifests: %q", l)
	}
	b, e := f.Read(l[0])
	done(t, e)
	records, _, e := frame.Scan(b)
	done(t, e)
	var out []api.Edit
	for _, r := range records {
		edit, e := manifest.Decode(r)
		done(t, e)
		out = append(out, edit)
	}
	return out
}

// lastEdit is the last one of them.
func lastEdit(t testing.TB, f *vfs.FS) api.Edit {
	t.Helper()
	l := edits(t, f)
	return l[len(l)-1]
}

func sameEdit(a, b api.Edit) bool {
	return slices.Equal(a.Drops, b.Drops) && slices.Equal(a.Adds, b.Adds) && a.Log == b.Log && a.Seq == b.Seq && a.Next == b.Next
}

// wrote says which edit was written last.
func wrote(t testing.TB, f *vfs.FS, want api.Edit) {
	t.Helper()
	if got := lastEdit(t, f); !sameEdit(got, want) {
		t.Errorf("the edit is %v, not %v", got, want)
	}
}

// has says that a table's file is there, durably, and just what these entries come to.
func has(t testing.TB, f *vfs.FS, s api.Settings, number int, l []api.Entry) {
	t.Helper()
	want := tab{number, 0, l}.bytes(t, s)
	b, e := f.Read(named(number))
	d, ok := f.Durable(named(number))
	if e != api.OK || !ok || !slices.Equal(b, want) || !slices.Equal(d, want) {
		t.Errorf("%s: %d bytes, %d; %d durable, %v; not %d", named(number), len(b), e, len(d), ok, len(want))
	}
}

// past is all batches, the first one being that of the Seq 1.
type past [][]api.Write

// at is what a map tells to which all batches up to seq were done.
func (p past) at(seq int) map[string]string {
	state := map[string]string{}
	for _, b := range p[:seq] {
		for _, w := range b {
			if w.Del {
				delete(state, w.Key)
			} else {
				state[w.Key] = w.Value
			}
		}
	}
	return state
}

// keys are all that were ever written, and some others.
func (p past) keys() []string {
	all := map[string]string{"": "", "a": "", "k": "", "zz": "", long(513): ""}
	for _, b := range p {
		for _, w := range b {
			all[w.Key] = ""
		}
	}
	return slices.Sorted(maps.Keys(all))
}

// inSpan is what of a state is in a span, at most most.
func inSpan(state map[string]string, span api.Span, most int) []api.KV {
	var l []api.KV
	for _, k := range slices.Sorted(maps.Keys(state)) {
		if len(l) < most && k >= span.From && (span.To == "" || k < span.To) {
			l = append(l, api.KV{Key: k, Value: state[k]})
		}
	}
	return l
}

// tellsAll says that Get of each key and Scan of some spans tell at seq what a map tells.
func (p past) tellsAll(t testing.TB, s *Store, seq int) {
	t.Helper()
	state, keys := p.at(seq), p.keys()
	for _, k := range keys {
		want, should := state[k]
		if value, there, e := s.Get(k, seq); value != want || there != should || e != api.OK {
			t.Fatalf("Get(%.20q, %d): %.20q, %v, %d; not %.20q, %v", k, seq, value, there, e, want, should)
		}
	}
	some := []string{keys[len(keys)/3], keys[len(keys)/2], keys[len(keys)*4/5]}
	for _, span := range []api.Span{{}, {From: some[0]}, {To: some[1]}, {From: some[0], To: some[2]}, {From: some[1], To: some[0]}, {From: some[1] + "\x00", To: some[2] + "\x00"}} {
		for _, most := range []int{0, 1, 3, 1 << 30} {
			want := inSpan(state, span, most)
			if l, e := s.Scan(span, seq, most); e != api.OK || !slices.Equal(l, want) {
				t.Fatalf("Scan(%q, %d, %d): %v, %d; not %v", span, seq, most, l, e, want)
			}
		}
	}
}
