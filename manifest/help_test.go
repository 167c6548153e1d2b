package manifest

import (
	"encoding/binary"
	"fmt"
	"hash/crc32"
	"slices"
	"sort"
	"strings"
	"testing"

	"stagepost/api"
	"stagepost/vfs"
)

// meta is a table's words.
func meta(number, level, count int, first, last string) api.Meta {
	return api.Meta{Number: number, Level: level, Count: count, First: first, Last: last}
}

// version is a version with these tables.
func version(log, seq, next int, tables ...api.Meta) api.Version {
	return api.Version{Tables: tables, Log: log, Seq: seq, Next: next}
}

// edit is an edit with these drops and adds.
func edit(drops []int, adds []api.Meta, log, seq, next int) api.Edit {
	return api.Edit{Drops: drops, Adds: adds, Log: log, Seq: seq, Next: next}
}

// adds is an edit that adds these tables, and leaves all else of the version as it is, but Next, which goes behind them.
func adds(v api.Version, tables ...api.Meta) api.Edit {
	next := v.Next
	for _, x := range tables {
		next = max(next, x.Number+1)
	}
	return edit(nil, tables, v.Log, v.Seq, next)
}

func metas(l ...api.Meta) []api.Meta { return l }

func numbers(l ...int) []int { return l }

// one is the version ahead of all edits.
func one() api.Version { return version(1, 0, 1) }

// long is a text of n bytes.
func long(n int) string { return strings.Repeat("x", n) }

// key is a text of n bytes, in the order of i.
func key(i, n int) string { return fmt.Sprintf("%0*d", n, i) }

// row are n tables of one level, in their order, from the Number first on, with keys of size bytes.
func row(n, level, first, size int) []api.Meta {
	var l []api.Meta
	for i := range n {
		l = append(l, meta(first+i, level, 1+i%65536, key(2*i, size), key(2*i+1, size)))
	}
	if level == 0 {
		slices.Reverse(l)
	}
	return l
}

// sample is a version with tables of several levels.
func sample() api.Version {
	return version(3, 70, 12,
		meta(9, 0, 4, "a", "m"), meta(7, 0, 1, "c", "c"), meta(6, 0, 65536, "b", "z"),
		meta(4, 1, 3, "a", "c"), meta(8, 1, 3, "d", "f"), meta(1, 1, 2, "fa", "g"),
		meta(2, 3, 7, "b", "d"), meta(5, 3, 7, "e", "e"),
		meta(11, 6, 9, "\x00", "\xff\xff"),
	)
}

// goodVersions are versions that may be: the edges of each bound, and all kinds of order.
func goodVersions() map[string]api.Version {
	const top = 999999
	return map[string]api.Version{
		"the first one":                        one(),
		"the greatest numbers":                 version(top, 1<<30, top),
		"an empty list":                        version(1, 0, 1, metas()...),
		"several levels":                       sample(),
		"one table":                            version(1, 0, 2, meta(1, 0, 1, "a", "a")),
		"the greatest Number":                  version(1, 0, top, meta(top-1, 0, 1, "a", "a")),
		"the greatest Level":                   version(1, 0, 2, meta(1, 6, 1, "a", "b")),
		"the greatest Count":                   version(1, 0, 2, meta(1, 0, 65536, "a", "b")),
		"keys of one byte":                     version(1, 0, 2, meta(1, 0, 1, "\x00", "\xff")),
		"keys of 512 bytes":                    version(1, 0, 2, meta(1, 0, 1, long(512), long(512))),
		"First the beginning of Last":          version(1, 0, 2, meta(1, 0, 1, "a", "a\x00")),
		"level 0 with one range":               version(1, 0, 4, meta(3, 0, 1, "a", "c"), meta(2, 0, 1, "a", "c"), meta(1, 0, 1, "a", "c")),
		"level 0 with keys shared":             version(1, 0, 4, meta(3, 0, 1, "b", "d"), meta(2, 0, 1, "a", "b"), meta(1, 0, 1, "a", "z")),
		"level 0 with First falling":           version(1, 0, 4, meta(3, 0, 1, "c", "d"), meta(2, 0, 1, "b", "b"), meta(1, 0, 1, "a", "a")),
		"ranges that touch":                    version(1, 0, 3, meta(1, 1, 1, "a", "c"), meta(2, 1, 1, "c\x00", "d")),
		"ranges of one key each":               version(1, 0, 3, meta(2, 1, 1, "a", "a"), meta(1, 1, 1, "b", "b")),
		"keys shared by two levels":            version(1, 0, 4, meta(1, 1, 1, "a", "c"), meta(2, 2, 1, "a", "c"), meta(3, 6, 1, "b", "c")),
		"keys shared with level 0":             version(1, 0, 3, meta(1, 0, 1, "a", "c"), meta(2, 1, 1, "a", "c")),
		"Numbers falling on a level from 1 on": version(1, 0, 4, meta(3, 2, 1, "a", "b"), meta(2, 2, 1, "c", "d"), meta(1, 2, 1, "e", "f")),
		"1,024 tables of level 0":              version(1, 0, 1025, row(1024, 0, 1, 4)...),
		"1,024 tables of level 3":              version(1, 0, 1025, row(1024, 3, 1, 4)...),
		"1,024 tables with keys of 512 bytes":  version(5, 6, 1025, row(1024, 2, 1, 512)...),
	}
}

// plain is an edit's bytes by the library's numbers of a few bytes, whether the bounds hold or not.
func plain(e api.Edit) []byte {
	number := binary.AppendUvarint
	out := number(nil, uint64(len(e.Drops)))
	for _, n := range e.Drops {
		out = number(out, uint64(n))
	}
	out = number(out, uint64(len(e.Adds)))
	for _, x := range e.Adds {
		for _, n := range []int{x.Number, x.Level, x.Count} {
			out = number(out, uint64(n))
		}
		for _, s := range []string{x.First, x.Last} {
			out = append(number(out, uint64(len(s))), s...)
		}
	}
	for _, n := range []int{e.Log, e.Seq, e.Next} {
		out = number(out, uint64(n))
	}
	return out
}

// bounded says what the chapter's words say of a table, one thing at a time.
func bounded(x api.Meta) bool {
	return x.Number >= 1 && x.Number <= 999999 &&
		x.Level >= 0 && x.Level <= 6 &&
		x.Count >= 1 && x.Count <= 65536 &&
		len(x.First) >= 1 && len(x.First) <= 512 &&
		len(x.Last) >= 1 && len(x.Last) <= 512 &&
		strings.Compare(x.First, x.Last) <= 0
}

// numbered says what they say of the numbers of a version or of an edit.
func numbered(log, seq, next int) bool {
	return log >= 1 && log <= 999999 && seq >= 0 && seq <= 1<<30 && next >= 1 && next <= 999999
}

// encodable is what Encode should answer beside the bytes.
func encodable(e api.Edit) api.Errno {
	if len(e.Drops) > 1024 || len(e.Adds) > 1024 {
		return api.ErrLong
	}
	for _, n := range e.Drops {
		if n < 1 || n > 999999 {
			return api.ErrArg
		}
	}
	for _, x := range e.Adds {
		if !bounded(x) {
			return api.ErrArg
		}
	}
	if !numbered(e.Log, e.Seq, e.Next) {
		return api.ErrArg
	}
	return api.OK
}

// possible says whether a version may be: each two of its tables are held against each other.
func possible(v api.Version) bool {
	if len(v.Tables) > 1024 || !numbered(v.Log, v.Seq, v.Next) {
		return false
	}
	for j, y := range v.Tables {
		if !bounded(y) || y.Number >= v.Next {
			return false
		}
		for _, x := range v.Tables[:j] {
			share := x.First <= y.Last && y.First <= x.Last
			switch {
			case x.Number == y.Number, x.Level > y.Level:
				return false
			case x.Level == y.Level && x.Level == 0 && x.Number < y.Number:
				return false
			case x.Level == y.Level && x.Level > 0 && (share || x.First > y.First):
				return false
			}
		}
	}
	return true
}

// count is how often a number is in a list.
func count(l []int, n int) int {
	times := 0
	for _, x := range l {
		if x == n {
			times++
		}
	}
	return times
}

// ordered is the tables level by level.
func ordered(l []api.Meta) []api.Meta {
	var out []api.Meta
	for level := range 7 {
		var part []api.Meta
		for _, x := range l {
			if x.Level == level {
				part = append(part, x)
			}
		}
		sort.SliceStable(part, func(i, j int) bool {
			if level == 0 {
				return part[i].Number > part[j].Number
			}
			return part[i].First < part[j].First
		})
		out = append(out, part...)
	}
	return out
}

// behindModel is what Behind should answer.
func behindModel(v api.Version, e api.Edit) (api.Version, api.Errno) {
	if !possible(v) {
		return api.Version{}, api.ErrArg
	}
	var there []int
	var left []api.Meta
	for _, x := range v.Tables {
		there = append(there, x.Number)
		if count(e.Drops, x.Number) == 0 {
			left = append(left, x)
		}
	}
	for _, n := range e.Drops {
		if count(e.Drops, n) != 1 || count(there, n) != 1 {
			return api.Version{}, api.ErrArg
		}
	}
	all := slices.Concat(left, e.Adds)
	next := version(e.Log, e.Seq, e.Next, ordered(all)...)
	if len(next.Tables) != len(all) || !possible(next) || e.Log < v.Log || e.Seq < v.Seq || e.Next < v.Next {
		return api.Version{}, api.ErrArg
	}
	return next, api.OK
}

// guess is an edit whose bytes b may be: none other may have them.
func guess(b []byte) (g api.Edit) {
	number := func() int {
		x, n := binary.Uvarint(b)
		if n <= 0 || x > 1<<31 {
			b = nil
			return 0
		}
		b = b[n:]
		return int(x)
	}
	text := func() string {
		n := min(number(), len(b))
		s := string(b[:n])
		b = b[n:]
		return s
	}
	for range min(number(), 1025) {
		g.Drops = append(g.Drops, number())
	}
	for range min(number(), 1025) {
		x := api.Meta{Number: number()}
		x.Level, x.Count = number(), number()
		x.First, x.Last = text(), text()
		g.Adds = append(g.Adds, x)
	}
	g.Log, g.Seq, g.Next = number(), number(), number()
	return g
}

// decoded is what Decode should answer.
func decoded(b []byte) (api.Edit, api.Errno) {
	if g := guess(b); encodable(g) == api.OK && slices.Equal(plain(g), b) {
		return g, api.OK
	}
	return api.Edit{}, api.ErrBad
}

func sameVersion(a, b api.Version) bool {
	return slices.Equal(a.Tables, b.Tables) && a.Log == b.Log && a.Seq == b.Seq && a.Next == b.Next
}

func sameEdit(a, b api.Edit) bool {
	return slices.Equal(a.Drops, b.Drops) && slices.Equal(a.Adds, b.Adds) && a.Log == b.Log && a.Seq == b.Seq && a.Next == b.Next
}

// noVersion says whether it is the zero value.
func noVersion(v api.Version) bool {
	return v.Tables == nil && v.Log == 0 && v.Seq == 0 && v.Next == 0
}

// noEdit says whether it is the zero value.
func noEdit(e api.Edit) bool {
	return e.Drops == nil && e.Adds == nil && e.Log == 0 && e.Seq == 0 && e.Next == 0
}

// brief tells a version in a line.
func brief(v api.Version) string {
	var out []string
	for i, x := range v.Tables {
		if i == 12 {
			out = append(out, fmt.Sprint("and ", len(v.Tables)-i, " more"))
			break
		}
		out = append(out, fmt.Sprintf("%d/%d*%d %.9q-%.9q", x.Number, x.Level, x.Count, x.First, x.Last))
	}
	return fmt.Sprintf("{%s; %d %d %d}", strings.Join(out, ", "), v.Log, v.Seq, v.Next)
}

// briefEdit tells an edit in a line.
func briefEdit(e api.Edit) string {
	return fmt.Sprint(len(e.Drops), " drops ", e.Drops[:min(len(e.Drops), 9)], ", adds ", brief(version(e.Log, e.Seq, e.Next, e.Adds...)))
}

// sealed is b with its checksum behind it.
func sealed(b []byte) []byte {
	return binary.LittleEndian.AppendUint32(slices.Clone(b), crc32.Checksum(b, crc32.MakeTable(crc32.Castagnoli)))
}

// framed is the frames of the records, one behind the other.
func framed(records ...[]byte) []byte {
	var out []byte
	for _, r := range records {
		out = slices.Concat(out, sealed(binary.LittleEndian.AppendUint32(nil, uint32(len(r)))), sealed(r))
	}
	return out
}

// framesOf are the frames of the edits' bytes.
func framesOf(l ...api.Edit) []byte {
	var out []byte
	for _, e := range l {
		out = append(out, framed(plain(e))...)
	}
	return out
}

// whole is what a file holds of which this version is all.
func whole(v api.Version) []byte {
	return framesOf(edit(nil, v.Tables, v.Log, v.Seq, v.Next))
}

// named is a file's name, by the library.
func named(n int) string { return fmt.Sprintf("manifest-%06d", n) }

// pointing is what the file holds that names another one.
func pointing(n int) []byte { return framed([]byte(named(n))) }

// newFS is a new file system.
func newFS(t testing.TB, room int) *vfs.FS {
	t.Helper()
	f, e := vfs.New(room)
	if e != api.OK {
		t.Fatalf("New(%d): %v", room, e)
	}
	return f
}

// done says that nothing of this was refused.
func done(t testing.TB, all ...api.Errno) {
	t.Helper()
	for i, e := range all {
		if e != api.OK {
			t.Fatalf("the call %d: %v", i, e)
		}
	}
}

// answers says that a call answered this.
func answers(t testing.TB, what string, got, want api.Errno) {
	t.Helper()
	if got != want {
		t.Errorf("%s: %d, not %d", what, got, want)
	}
}

// holding lays a file with these bytes into the file system, durably.
func holding(t testing.TB, f *vfs.FS, name string, b []byte) {
	t.Helper()
	done(t, f.Create(name), f.Append(name, b), f.Sync(name), f.SyncNames())
}

// laid is a file system with a file of this number and these bytes, which `current` names.
func laid(t testing.TB, n int, b []byte) *vfs.FS {
	t.Helper()
	f := newFS(t, 1<<26)
	holding(t, f, named(n), b)
	holding(t, f, "current", pointing(n))
	return f
}

// off turns a file system off.
func off(t testing.TB, f *vfs.FS) {
	t.Helper()
	done(t, f.Fuse(0))
	if e := f.SyncNames(); e != api.ErrOff || f.On() {
		t.Fatalf("it is not off: %v", e)
	}
}

// opened is a manifest that Open answers.
func opened(t testing.TB, f *vfs.FS) *Manifest {
	t.Helper()
	m, e := Open(f)
	if e != api.OK || m == nil {
		t.Fatalf("Open: %v, %d\n%s", m != nil, e, look(f))
	}
	return m
}

// tells says that Open answers a manifest that knows this version, in the file with this number, and that just these are held.
func tells(t testing.TB, f *vfs.FS, want api.Version, n int) *Manifest {
	t.Helper()
	m := opened(t, f)
	is(t, m, want, n)
	names(t, f, "current", named(n))
	reads(t, f, "current", pointing(n))
	reads(t, f, named(n), whole(want))
	return m
}

// is says which version and which file a manifest has.
func is(t testing.TB, m *Manifest, want api.Version, n int) {
	t.Helper()
	if got := m.Version(); !sameVersion(got, want) {
		t.Errorf("Version: %s, not %s", brief(got), brief(want))
	}
	if got := m.File(); got != named(n) {
		t.Errorf("File: %q, not %q", got, named(n))
	}
}

// refuses says that Open answers this error, nothing beside it, and leaves the file system as it was.
func refuses(t testing.TB, what string, f *vfs.FS, want api.Errno) {
	t.Helper()
	was := look(f)
	m, e := Open(f)
	if m != nil || e != want {
		t.Errorf("%s: Open: %v, %d; not %d", what, m != nil, e, want)
	}
	if now := look(f); now != was {
		t.Errorf("%s: Open was refused, and changed\n%s\ninto\n%s", what, was, now)
	}
}

// added says that Add is done, and makes this version.
func added(t testing.TB, m *Manifest, e api.Edit, want api.Version) {
	t.Helper()
	if fault := m.Add(e); fault != api.OK {
		t.Fatalf("Add of %s: %v", briefEdit(e), fault)
	}
	if got := m.Version(); !sameVersion(got, want) {
		t.Fatalf("Add of %s made %s, not %s", briefEdit(e), brief(got), brief(want))
	}
}

// rejects says that Add answers this error, and that nothing changed by it.
func rejects(t testing.TB, f *vfs.FS, m *Manifest, what string, e api.Edit, want api.Errno) {
	t.Helper()
	was, v, file := look(f), m.Version(), m.File()
	if got := m.Add(e); got != want {
		t.Errorf("%s: Add: %d; not %d", what, got, want)
	}
	if now := look(f); now != was {
		t.Errorf("%s: Add was refused, and changed\n%s\ninto\n%s", what, was, now)
	}
	if now := m.Version(); !sameVersion(now, v) || m.File() != file {
		t.Errorf("%s: Add was refused, and changed %s into %s, %q into %q", what, brief(v), brief(now), file, m.File())
	}
}

// names says that just these names are held.
func names(t testing.TB, f *vfs.FS, want ...string) {
	t.Helper()
	if got := f.Names(); !slices.Equal(got, want) {
		t.Errorf("Names: %q, not %q", got, want)
	}
}

// reads says what the file holds.
func reads(t testing.TB, f *vfs.FS, name string, want []byte) {
	t.Helper()
	if got, e := f.Read(name); e != api.OK || !slices.Equal(got, want) {
		t.Errorf("Read(%s): %d bytes, %v; not %d", name, len(got), e, len(want))
	}
}

// look tells all that can be asked of a file system.
func look(f *vfs.FS) string {
	var out strings.Builder
	fmt.Fprintf(&out, "on %v, left %d, pending %d, steps %d, names %q", f.On(), f.Left(), f.Pending(), f.Steps(), f.Names())
	for _, name := range slices.Concat(f.Names(), []string{"current", "current.new", named(1), named(2), named(3), named(4)}) {
		b, _ := f.Read(name)
		d, ok := f.Durable(name)
		fmt.Fprintf(&out, "\n%s: %x, durable %x %v", name, b, d, ok)
	}
	return out.String()
}
