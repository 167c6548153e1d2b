package lsm

import (
	"fmt"
	"maps"
	"regexp"
	"slices"
	"sort"
	"strconv"
	"testing"

	"stagepost/api"
	"stagepost/manifest"
	"stagepost/sst"
	"stagepost/vfs"
	"stagepost/wal"
)

// model is a store by the chapter's words alone: it has all entries in lists, and works each answer out anew. It stands on manifest and wal for the bytes that are theirs, and on sst for those of a table.
type model struct {
	f      *vfs.FS
	set    api.Settings
	m      *manifest.Manifest
	w      *wal.Wal
	tables map[int][]api.Entry // by number
	recent []api.Entry
	taken  []int // the snapshots
	passed int
	stop   api.Errno
}

var (
	tableName   = regexp.MustCompile(`^sst-[0-9]{6}$`)
	segmentName = regexp.MustCompile(`^wal-[0-9]{6}$`)
)

// between says whether x is from least to most.
func between(x, least, most int) bool { return x >= least && x <= most }

func openModel(f *vfs.FS, set api.Settings) (*model, api.Errno) {
	if f == nil {
		return nil, api.ErrNil
	}
	for _, h := range set.Heights {
		if !between(h, 1, 12) {
			return nil, api.ErrArg
		}
	}
	if !between(set.Per, 1, 64) || !between(set.Bits, 1, 16) || !between(set.Top, 1, 64) || !between(set.Most, 1, 65536) {
		return nil, api.ErrArg
	}
	m, e := manifest.Open(f)
	if e != api.OK {
		return nil, e
	}
	s := &model{f: f, set: set, m: m, tables: map[int][]api.Entry{}}
	v := m.Version()
	for _, x := range v.Tables {
		b, e := f.Read(named(x.Number))
		if e != api.OK {
			return nil, api.ErrCorrupt
		}
		file, e := sst.Open(b)
		if e != api.OK || file.Len() != x.Count || file.Last() != x.Last {
			return nil, api.ErrCorrupt
		}
		if s.tables[x.Number], e = file.All(); e != api.OK {
			panic("the model knows nothing of altered blocks")
		}
	}
	w, batches, e := wal.Open(f, v.Log, v.Seq)
	if e != api.OK {
		return nil, e
	}
	s.w, s.passed = w, w.Seq()
	for _, b := range batches {
		s.remember(b.Seq, b.Writes)
	}
	for _, name := range f.Names() {
		if !tableName.MatchString(name) || slices.ContainsFunc(v.Tables, func(x api.Meta) bool { return named(x.Number) == name }) {
			continue
		}
		if e := f.Remove(name); e != api.OK {
			return nil, e
		}
	}
	for _, name := range f.Names() {
		if !segmentName.MatchString(name) || name == segment(0) || name >= segment(v.Log) {
			continue
		}
		if e := f.Remove(name); e != api.OK {
			return nil, e
		}
	}
	return s, api.OK
}

func (s *model) remember(seq int, l []api.Write) {
	for _, w := range l {
		s.recent = append(s.recent, api.Entry{Key: w.Key, Value: w.Value, Seq: seq, Del: w.Del})
	}
}

// met keeps what stops it.
func (s *model) met(e api.Errno) api.Errno {
	if e == api.ErrOff || e == api.ErrCorrupt {
		s.stop = e
	}
	return e
}

func (s *model) Apply(l []api.Write) (int, api.Errno) {
	if e := s.Stopped(); e != api.OK {
		return 0, e
	}
	seq, e := s.w.Append(l)
	if e == api.OK {
		s.remember(seq, l)
	}
	return seq, s.met(e)
}

// state is of each key the visible version at seq of all entries, where that is a put.
func (s *model) state(seq int) map[string]string {
	best := map[string]api.Entry{}
	for _, l := range append(slices.Collect(maps.Values(s.tables)), s.recent) {
		for _, x := range l {
			if x.Seq <= seq && x.Seq > best[x.Key].Seq {
				best[x.Key] = x
			}
		}
	}
	out := map[string]string{}
	for k, x := range best {
		if !x.Del {
			out[k] = x.Value
		}
	}
	return out
}

// may says why the state at seq may not be asked for.
func (s *model) may(seq int) api.Errno {
	if e := s.Stopped(); e != api.OK {
		return e
	}
	if seq > s.w.Seq() || seq < s.passed && !slices.Contains(s.taken, seq) {
		return api.ErrStale
	}
	return api.OK
}

func (s *model) Get(key string, seq int) (string, bool, api.Errno) {
	if e := s.may(seq); e != api.OK {
		return "", false, e
	}
	value, there := s.state(seq)[key]
	return value, there, api.OK
}

func (s *model) Scan(span api.Span, seq, most int) ([]api.KV, api.Errno) {
	if e := s.may(seq); e != api.OK {
		return nil, e
	}
	if most < 0 {
		return nil, api.ErrArg
	}
	return inSpan(s.state(seq), span, most), api.OK
}

func (s *model) Seq() int {
	if s.Stopped() != api.OK {
		return 0
	}
	return s.w.Seq()
}

func (s *model) Snapshot() (int, api.Errno) {
	if e := s.Stopped(); e != api.OK {
		return 0, e
	}
	s.taken = append(s.taken, s.w.Seq())
	return s.w.Seq(), api.OK
}

func (s *model) Release(seq int) api.Errno {
	if e := s.Stopped(); e != api.OK {
		return e
	}
	i := slices.Index(s.taken, seq)
	if i < 0 {
		return api.ErrArg
	}
	s.taken = slices.Delete(s.taken, i, i+1)
	return api.OK
}

func (s *model) Held() int {
	if s.Stopped() != api.OK {
		return 0
	}
	return len(s.taken)
}

// Stopped is asked by all others: each of them sees that the file system is off.
func (s *model) Stopped() api.Errno {
	if s.stop == api.OK && !s.f.On() {
		s.stop = api.ErrOff
	}
	return s.stop
}

func (s *model) Tables() []api.Meta {
	if s.Stopped() != api.OK {
		return nil
	}
	return s.m.Version().Tables
}

// level is the words of its tables, in the version's order.
func (s *model) level(n int) []api.Meta {
	var l []api.Meta
	for _, x := range s.m.Version().Tables {
		if x.Level == n {
			l = append(l, x)
		}
	}
	return l
}

func (s *model) Due() int {
	if s.Stopped() != api.OK {
		return 0
	}
	for i, times := range []int{1, 4, 16, 64, 256, 1024} {
		if len(s.level(i)) > s.set.Top*times {
			return i
		}
	}
	return -1
}

// inOrder puts entries in their order.
func inOrder(l []api.Entry) []api.Entry {
	l = slices.Clone(l)
	sort.Slice(l, func(i, j int) bool {
		if l[i].Key != l[j].Key {
			return l[i].Key < l[j].Key
		}
		return l[i].Seq > l[j].Seq
	})
	return l
}

// parts cuts entries in order: behind the last one of a key, as soon as there are Most.
func parts(l []api.Entry, most int) [][]api.Entry {
	var out [][]api.Entry
	var part []api.Entry
	for i, x := range l {
		part = append(part, x)
		if i+1 == len(l) || len(part) >= most && l[i+1].Key != x.Key {
			out, part = append(out, part), nil
		}
	}
	return out
}

// build is tables of a level of these entries, and the bytes of their files, in the place of so many others.
func (s *model) build(l []api.Entry, level, drops int) (words []api.Meta, pieces [][]api.Entry, bytes [][]byte, e api.Errno) {
	v := s.m.Version()
	pieces = parts(l, s.set.Most)
	for _, p := range pieces {
		if len(p) > 65536 {
			return nil, nil, nil, api.ErrLong
		}
	}
	// The greatest Next is 999,999, and all numbers are below it.
	if len(v.Tables)-drops+len(pieces) > 1024 || v.Next+len(pieces) > 999999 {
		return nil, nil, nil, api.ErrLong
	}
	for i, p := range pieces {
		b, e := sst.Build(p, s.set.Per, s.set.Bits)
		if e != api.OK {
			return nil, nil, nil, e
		}
		words = append(words, meta(v.Next+i, level, len(p), p[0].Key, p[len(p)-1].Key))
		bytes = append(bytes, b)
	}
	return words, pieces, bytes, api.OK
}

// bring makes the files, and adds the edit.
func (s *model) bring(words []api.Meta, bytes [][]byte, edit api.Edit) api.Errno {
	for i, x := range words {
		name := named(x.Number)
		if slices.Contains(s.f.Names(), name) {
			if e := s.f.Remove(name); e != api.OK {
				return e
			}
		}
		if e := s.f.Create(name); e != api.OK {
			return e
		}
		if e := s.f.Append(name, bytes[i]); e != api.OK {
			return e
		}
		if e := s.f.Sync(name); e != api.OK {
			return e
		}
	}
	if e := s.f.SyncNames(); e != api.OK {
		return e
	}
	edit.Adds, edit.Next = words, s.m.Version().Next+len(words)
	return s.m.Add(edit)
}

func (s *model) Flush() api.Errno {
	if e := s.Stopped(); e != api.OK {
		return e
	}
	if len(s.recent) == 0 {
		return api.OK
	}
	words, pieces, bytes, e := s.build(inOrder(s.recent), 0, 0)
	if e != api.OK {
		return s.met(e)
	}
	if e := s.w.Roll(); e != api.OK {
		return s.met(e)
	}
	if e := s.bring(words, bytes, api.Edit{Log: s.w.Segment(), Seq: s.w.Seq()}); e != api.OK {
		return s.met(e)
	}
	for i, x := range words {
		s.tables[x.Number] = pieces[i]
	}
	s.recent = nil
	return s.met(s.w.Drop(s.w.Segment()))
}

// meets says whether two ranges have a key in common.
func meets(x api.Meta, first, last string) bool {
	return !(x.Last < first) && !(last < x.First)
}

// hull is the least First and the greatest Last.
func hull(l []api.Meta) (first, last string) {
	for i, x := range l {
		if i == 0 || x.First < first {
			first = x.First
		}
		if i == 0 || x.Last > last {
			last = x.Last
		}
	}
	return first, last
}

// fold is of entries in order those that somebody may ask for at one of these Seqs.
func fold(l []api.Entry, at []int, last bool) []api.Entry {
	visible := func(x api.Entry) bool {
		for _, seq := range at {
			best := api.Entry{}
			for _, y := range l {
				if y.Key == x.Key && y.Seq <= seq && y.Seq > best.Seq {
					best = y
				}
			}
			if best == x {
				return true
			}
		}
		return false
	}
	var out []api.Entry
	for _, x := range l {
		if visible(x) {
			out = append(out, x)
		}
	}
	if !last {
		return out
	}
	return slices.DeleteFunc(slices.Clone(out), func(x api.Entry) bool {
		// A delete goes, if no put of its key is older.
		return x.Del && !slices.ContainsFunc(out, func(y api.Entry) bool { return y.Key == x.Key && y.Seq < x.Seq && !y.Del })
	})
}

func (s *model) Compact(level int) api.Errno {
	if e := s.Stopped(); e != api.OK {
		return e
	}
	if level < 0 || level > 5 {
		return api.ErrArg
	}
	all := s.level(level)
	if len(all) == 0 {
		return api.OK
	}
	if level > 0 {
		all = all[:1]
	}
	first, last := hull(all)
	for _, x := range s.level(level + 1) {
		if meets(x, first, last) {
			all = append(all, x)
		}
	}
	first, last = hull(all)
	deepest := true
	for _, x := range s.m.Version().Tables {
		deepest = deepest && !(x.Level > level+1 && meets(x, first, last))
	}
	var l []api.Entry
	var drops []int
	for _, x := range all {
		l, drops = append(l, s.tables[x.Number]...), append(drops, x.Number)
	}
	l = fold(inOrder(l), append([]int{maxSeq, s.w.Seq()}, s.taken...), deepest)
	words, pieces, bytes, e := s.build(l, level+1, len(drops))
	if e != api.OK {
		return s.met(e)
	}
	v := s.m.Version()
	if e := s.bring(words, bytes, api.Edit{Drops: drops, Log: v.Log, Seq: v.Seq}); e != api.OK {
		return s.met(e)
	}
	for i, x := range words {
		s.tables[x.Number] = pieces[i]
	}
	s.passed = s.w.Seq()
	for _, n := range drops {
		delete(s.tables, n)
		if e := s.f.Remove(named(n)); e != api.OK && e != api.ErrMissing {
			return s.met(e)
		}
	}
	return api.OK
}

// twin is a store and a model of one, over file systems that were made alike.
type twin struct {
	t     testing.TB
	f, g  *vfs.FS
	set   api.Settings
	store *Store
	model *model
	aside bool // the file system went off aside of the store's calls, and none was done since
}

// twins is such a pair over two file systems that a function makes.
func twins(t testing.TB, set api.Settings, make func() *vfs.FS) *twin {
	t.Helper()
	return &twin{t: t, f: make(), g: make(), set: set}
}

// begin opens both, and says that they answer the same.
func (w *twin) begin() api.Errno {
	w.t.Helper()
	s, e := Open(w.f, w.set)
	m, want := openModel(w.g, w.set)
	if e != want || (s != nil) != (e == api.OK) {
		w.t.Fatalf("Open: %v, %d; not %d\n%s", s != nil, e, want, look(w.f))
	}
	w.store, w.model = s, m
	w.same("Open")
	return e
}

// open opens both, and says whether they are there.
func (w *twin) open() bool {
	w.t.Helper()
	return w.begin() == api.OK
}

// same says that all that can be asked of one can be asked of the other, and that the files are alike.
func (w *twin) same(what string) {
	w.t.Helper()
	if got, want := look(w.f), look(w.g); got != want {
		w.t.Fatalf("%s left\n%s\nnot\n%s", what, got, want)
	}
	if w.store == nil || w.aside {
		return
	}
	if got, want := tell(w.store), tell(w.model); got != want {
		w.t.Fatalf("%s left\n%s\nnot\n%s", what, got, want)
	}
}

// do does the same to both, and says that both answer the same.
func (w *twin) do(what string, call func(s asked) string) string {
	w.t.Helper()
	got, want := call(w.store), call(w.model)
	w.aside = false
	if got != want {
		w.t.Fatalf("%s: %s, not %s", what, got, want)
	}
	w.same(what)
	return got
}

// crash crashes both.
func (w *twin) crash(k, t int) {
	w.t.Helper()
	done(w.t, w.f.Crash(k, t), w.g.Crash(k, t))
	w.store, w.model, w.aside = nil, nil, false
	w.same("Crash")
}

// played does what a word of a script says: F flushes, S takes a snapshot, C and a number compact a level, R and a number release a Seq; all else is a batch. It tells what came of it.
func played(s asked, word string) string {
	n, _ := strconv.Atoi(word[1:])
	switch word[0] {
	case 'F':
		return fmt.Sprint("Flush ", int(s.Flush()))
	case 'S':
		seq, e := s.Snapshot()
		return fmt.Sprint("Snapshot ", int(e), ": ", seq)
	case 'C':
		return fmt.Sprint("Compact ", int(s.Compact(n)))
	case 'R':
		return fmt.Sprint("Release ", int(s.Release(n)))
	default:
		seq, e := s.Apply(writes(word))
		return fmt.Sprint("Apply ", int(e), ": ", seq)
	}
}

// play plays words to both.
func (w *twin) play(words ...string) {
	w.t.Helper()
	for _, word := range words {
		w.do(word, func(s asked) string { return played(s, word) })
	}
}
