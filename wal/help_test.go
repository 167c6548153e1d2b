package wal

import (
	"encoding/binary"
	"fmt"
	"hash/crc32"
	"reflect"
	"slices"
	"strings"
	"testing"

	"stagepost/api"
	"stagepost/vfs"
)

func put(k, v string) api.Write { return api.Write{Key: k, Value: v} }

func del(k string) api.Write { return api.Write{Key: k, Del: true} }

func list(l ...api.Write) []api.Write { return l }

// batch is a batch with these writes.
func batch(seq int, l ...api.Write) api.Batch { return api.Batch{Seq: seq, Writes: l} }

// simple is a batch of one write that tells its Seq.
func simple(seq int) api.Batch { return batch(seq, put("k", fmt.Sprint("v", seq))) }

// simples are those from one Seq to another.
func simples(from, to int) []api.Batch {
	var l []api.Batch
	for seq := from; seq <= to; seq++ {
		l = append(l, simple(seq))
	}
	return l
}

// many are n puts with unlike keys.
func many(n int) []api.Write {
	var l []api.Write
	for i := range n {
		l = append(l, put(fmt.Sprint("key ", i), fmt.Sprint("value ", i)))
	}
	return l
}

// long is a text of n bytes.
func long(n int) string { return strings.Repeat("x", n) }

// largest is the batch with the longest record.
func largest() api.Batch {
	var l []api.Write
	for i := range 64 {
		l = append(l, put(fmt.Sprintf("%0512d", i), strings.Repeat(string([]byte{byte(i)}), 4096)))
	}
	return batch(1<<30, l...)
}

// good are batches that may be: the edges of each count, and bytes of all kinds.
func good() []api.Batch {
	all := []api.Batch{
		batch(1, put("a", "1")),
		batch(2, del("a")),
		batch(1<<30, put("a", "")),
		batch(7, put("a", "1"), put("b", "2"), del("c"), put("d", "")),
		batch(300, put("\x00", "\x00\xff"), put("\xff\xfe", "\x80\x00")),
		batch(9, put("a", "b"), put("A", "b"), put("aa", "b"), put("b", "a")),
		batch(128, del(long(512)), put(long(511), long(4096))),
		batch(5, many(63)...),
		batch(5, many(64)...),
		largest(),
	}
	for _, n := range []int{1, 2, 127, 128, 129, 511, 512} {
		all = append(all, batch(n, put(long(n), "v")), batch(n, del(long(n))))
	}
	for _, n := range []int{0, 1, 2, 127, 128, 129, 4095, 4096} {
		all = append(all, batch(1<<14+n, put("k", long(n)), del("l")))
	}
	for k := range 30 {
		all = append(all, simple(1<<k), simple(1<<k+1), simple(1<<(k+1)-1))
	}
	return all
}

// plain is a batch's record by the library's numbers of a few bytes, whether the batch may be or not.
func plain(b api.Batch) []byte {
	out := binary.AppendUvarint(nil, uint64(b.Seq))
	out = binary.AppendUvarint(out, uint64(len(b.Writes)))
	for _, w := range b.Writes {
		mark := byte(0)
		if w.Del {
			mark = 1
		}
		out = append(out, mark)
		out = binary.AppendUvarint(out, uint64(len(w.Key)))
		out = append(out, w.Key...)
		if !w.Del {
			out = binary.AppendUvarint(out, uint64(len(w.Value)))
			out = append(out, w.Value...)
		}
	}
	return out
}

// mayBe says what the chapter's words say of a batch, one thing at a time.
func mayBe(b api.Batch) bool {
	if b.Seq < 1 || b.Seq > 1<<30 || len(b.Writes) < 1 || len(b.Writes) > 64 {
		return false
	}
	for i, w := range b.Writes {
		if len(w.Key) < 1 || len(w.Key) > 512 || len(w.Value) > 4096 || w.Del && len(w.Value) > 0 {
			return false
		}
		for _, v := range b.Writes[:i] {
			if v.Key == w.Key {
				return false
			}
		}
	}
	return true
}

// guess is a batch whose record b may be: none other may have it.
func guess(b []byte) (g api.Batch) {
	number := func() int {
		x, n := binary.Uvarint(b)
		if n <= 0 || x > 1<<31 {
			b = nil
			return 0
		}
		b = b[n:]
		return int(x)
	}
	text := func() string {
		n := min(number(), len(b))
		s := string(b[:n])
		b = b[n:]
		return s
	}
	g.Seq = number()
	for range min(number(), 65) {
		mark := byte(2)
		if len(b) > 0 {
			mark, b = b[0], b[1:]
		}
		w := api.Write{Key: text(), Del: mark == 1}
		if mark == 0 {
			w.Value = text()
		}
		g.Writes = append(g.Writes, w)
	}
	return g
}

// decoded is what Decode should answer.
func decoded(b []byte) (api.Batch, api.Errno) {
	if g := guess(b); mayBe(g) && slices.Equal(plain(g), b) {
		return g, api.OK
	}
	return api.Batch{}, api.ErrBad
}

// sealed is b with its checksum behind it.
func sealed(b []byte) []byte {
	return binary.LittleEndian.AppendUint32(slices.Clone(b), crc32.Checksum(b, crc32.MakeTable(crc32.Castagnoli)))
}

// framed is the frames of the records, one behind the other.
func framed(records ...[]byte) []byte {
	var out []byte
	for _, r := range records {
		out = slices.Concat(out, sealed(binary.LittleEndian.AppendUint32(nil, uint32(len(r)))), sealed(r))
	}
	return out
}

// frames are the frames of the batches' records.
func frames(l ...api.Batch) []byte {
	var out []byte
	for _, b := range l {
		out = append(out, framed(plain(b))...)
	}
	return out
}

// named is a segment's name, by the library.
func named(n int) string { return fmt.Sprintf("wal-%06d", n) }

// sameBatches holds two lists against each other; none is none, nil or empty.
func sameBatches(a, b []api.Batch) bool {
	return len(a) == 0 && len(b) == 0 || reflect.DeepEqual(a, b)
}

// brief tells batches in a line.
func brief(l []api.Batch) string {
	var out []string
	for _, b := range l {
		out = append(out, fmt.Sprint(b.Seq, "*", len(b.Writes)))
	}
	return strings.Join(out, " ")
}

// fresh is a new file system.
func fresh(t testing.TB, room int) *vfs.FS {
	t.Helper()
	f, e := vfs.New(room)
	if e != api.OK {
		t.Fatalf("New(%d): %v", room, e)
	}
	return f
}

// done says that nothing of this was refused.
func done(t testing.TB, all ...api.Errno) {
	t.Helper()
	for i, e := range all {
		if e != api.OK {
			t.Fatalf("the call %d: %v", i, e)
		}
	}
}

// answers says that a call answered this.
func answers(t testing.TB, what string, got, want api.Errno) {
	t.Helper()
	if got != want {
		t.Errorf("%s: %d, not %d", what, got, want)
	}
}

// holding lays a file with these bytes into the file system, durably.
func holding(t testing.TB, f *vfs.FS, name string, b []byte) {
	t.Helper()
	done(t, f.Create(name), f.Append(name, b), f.Sync(name), f.SyncNames())
}

// laid is a file system with these segments, from the number first on.
func laid(t testing.TB, first int, segments ...[]byte) *vfs.FS {
	t.Helper()
	f := fresh(t, 1<<26)
	for i, b := range segments {
		holding(t, f, named(first+i), b)
	}
	return f
}

// opened is a wal that Open answers, and the batches that it tells.
func opened(t testing.TB, f *vfs.FS, first, seq int) (*Wal, []api.Batch) {
	t.Helper()
	w, l, e := Open(f, first, seq)
	if e != api.OK || w == nil {
		t.Fatalf("Open(%d, %d): %v, %d batches, %v", first, seq, w, len(l), e)
	}
	return w, l
}

// tells says that Open answers just these batches, and a wal that has this Seq and writes to this segment.
func tells(t testing.TB, f *vfs.FS, first, seq int, want []api.Batch, last, segment int) *Wal {
	t.Helper()
	w, l := opened(t, f, first, seq)
	if !sameBatches(l, want) {
		t.Fatalf("Open(%d, %d) tells %s; not %s", first, seq, brief(l), brief(want))
	}
	is(t, w, last, segment)
	return w
}

// is says which Seq and which segment a wal has.
func is(t testing.TB, w *Wal, seq, segment int) {
	t.Helper()
	if w.Seq() != seq || w.Segment() != segment {
		t.Errorf("Seq %d, Segment %d; not %d, %d", w.Seq(), w.Segment(), seq, segment)
	}
}

// refuses says that Open answers this error, nothing beside it, and leaves the file system as it was.
func refuses(t testing.TB, f *vfs.FS, first, seq int, want api.Errno) {
	t.Helper()
	was := look(f)
	w, l, e := Open(f, first, seq)
	if w != nil || l != nil || e != want {
		t.Errorf("Open(%d, %d): %v, %s, %d; not %d", first, seq, w, brief(l), e, want)
	}
	if now := look(f); now != was {
		t.Errorf("Open(%d, %d) was refused, and changed\n%s\ninto\n%s", first, seq, was, now)
	}
}

// appends says that Append answers this Seq.
func appends(t testing.TB, w *Wal, seq int, l ...api.Write) {
	t.Helper()
	if got, e := w.Append(l); got != seq || e != api.OK {
		t.Fatalf("Append: %d, %v; not %d", got, e, seq)
	}
	if w.Seq() != seq {
		t.Errorf("Seq behind Append: %d, not %d", w.Seq(), seq)
	}
}

// fill appends the simple batches from one Seq to another.
func fill(t testing.TB, w *Wal, from, to int) {
	t.Helper()
	for _, b := range simples(from, to) {
		appends(t, w, b.Seq, b.Writes...)
	}
}

// names says that just these names are held.
func names(t testing.TB, f *vfs.FS, want ...string) {
	t.Helper()
	if got := f.Names(); !slices.Equal(got, want) {
		t.Errorf("Names: %q, not %q", got, want)
	}
}

// segmentsAre says that just the segments with these numbers are held.
func segmentsAre(t testing.TB, f *vfs.FS, want ...int) {
	t.Helper()
	var l []string
	for _, n := range want {
		l = append(l, named(n))
	}
	names(t, f, l...)
}

// reads says what the file holds.
func reads(t testing.TB, f *vfs.FS, name string, want []byte) {
	t.Helper()
	if got, e := f.Read(name); e != api.OK || !slices.Equal(got, want) {
		t.Errorf("Read(%s): %d bytes, %v; not %d", name, len(got), e, len(want))
	}
}

// settled says that nothing is pending: what is held is durable.
func settled(t testing.TB, f *vfs.FS) {
	t.Helper()
	if f.Pending() != 0 {
		t.Errorf("%d steps are pending", f.Pending())
	}
}

// look tells all that can be asked of a file system.
func look(f *vfs.FS) string {
	var out strings.Builder
	fmt.Fprintf(&out, "on %v, left %d, pending %d, steps %d, names %q", f.On(), f.Left(), f.Pending(), f.Steps(), f.Names())
	for _, name := range f.Names() {
		b, _ := f.Read(name)
		d, ok := f.Durable(name)
		fmt.Fprintf(&out, "\n%s: %x, durable %x %v", name, b, d, ok)
	}
	return out.String()
}
