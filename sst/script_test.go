package sst

import (
	"math/rand/v2"
	"slices"
	"testing"

	"stagepost/api"
	"stagepost/crc"
)

// These tests make entries, shapes, bursts and questions out of any bytes, and hold what is answered against the model (P9.1 to P9.5).

// tape hands out bytes one by one, and 0 behind its end.
type tape struct{ rest []byte }

func (p *tape) next(below int) int {
	if len(p.rest) == 0 {
		return 0
	}
	x := int(p.rest[0])
	p.rest = p.rest[1:]
	return x % below
}

func (p *tape) key() string {
	key := []byte{'a' + byte(p.next(6))}
	for range p.next(3) {
		key = append(key, byte(p.next(3)*127))
	}
	return string(key)
}

// entry is one, seldom such as may not be.
func (p *tape) entry() api.Entry {
	e := api.Entry{Key: p.key(), Seq: 1 + p.next(20), Del: p.next(3) == 0}
	if !e.Del {
		e.Value = long(p.next(5))
	}
	switch p.next(250) {
	case 1:
		e.Key = ""
	case 2:
		e.Seq = 0
	case 3:
		e.Seq = 1<<30 + 1
	case 4:
		e.Del, e.Value = true, "v"
	case 5:
		e.Key += long(512)
	}
	return e
}

// expected is what Build has to answer, but that an index may be too long.
func expected(l []api.Entry, per, bits int) api.Errno {
	switch {
	case per < 1 || per > 64 || bits < 1 || bits > 16 || len(l) == 0:
		return api.ErrArg
	case len(l) > 65536:
		return api.ErrLong
	}
	for _, e := range l {
		if e.Seq < 1 || e.Seq > 1<<30 || e.Key == "" || len(e.Key) > 512 || len(e.Value) > 4096 || e.Del && e.Value != "" {
			return api.ErrArg
		}
	}
	for i := range l {
		if i > 0 && !isAhead(l[i-1], l[i]) {
			return api.ErrOrder
		}
	}
	return api.OK
}

// played plays some bytes. It answers what Build answered, and what Open did.
func played(t testing.TB, b []byte) (build, opening api.Errno) {
	t.Helper()
	p := &tape{b}
	per, bits, rough := p.next(12), p.next(18), p.next(8) == 0
	var l []api.Entry
	for range p.next(60) {
		l = append(l, p.entry())
	}
	if !rough {
		l = slices.CompactFunc(sorted(l), func(a, b api.Entry) bool { return a.Key == b.Key && a.Seq == b.Seq })
	}
	got, build := Build(l, per, bits)
	if want := expected(l, per, bits); build != want || build != api.OK && got != nil {
		t.Fatalf("Build of %s, per %d, bits %d: %d, not %d", brief(l), per, bits, build, want)
	}
	if build != api.OK {
		return build, api.OK
	}
	if !slices.Equal(got, rawOf(l, per, bits).bytes()) {
		t.Fatalf("Build of %s, per %d, bits %d: other bytes", brief(l), per, bits)
	}
	for range p.next(4) {
		place := p.next(256) * len(got) / 32
		got, _ = crc.Burst(got, min(place, 8*len(got)-8), uint32(1+p.next(255)))
	}
	x, opening := Open(got)
	m, ok := opened(got)
	if ok != (opening == api.OK) || ok != (x != nil) || !ok && opening != api.ErrCorrupt {
		t.Fatalf("Open of %v: %v, %d; not %v", got, x != nil, opening, ok)
	}
	if ok {
		p.asks(t, x, m)
	}
	return build, opening
}

// asks asks whatever is left.
func (p *tape) asks(t testing.TB, x *Table, m *model) {
	t.Helper()
	for len(p.rest) > 0 {
		switch p.next(5) {
		case 0, 1:
			gets(t, x, m, p.key(), p.next(25)-2)
		case 2:
			scans(t, x, m, api.Span{From: p.key(), To: p.key()})
		case 3:
			scans(t, x, m, api.Span{From: p.key()})
		case 4:
			scans(t, x, m, api.Span{To: p.key()})
		}
		says(t, x, m)
	}
	scans(t, x, m, api.Span{})
}

func TestScripts(t *testing.T) {
	builds, opens := map[api.Errno]int{}, map[api.Errno]int{}
	for seed := range uint64(6000) {
		r := rand.New(rand.NewPCG(seed, 9))
		b := make([]byte, r.IntN(1+r.IntN(700)))
		for i := range b {
			b[i] = byte(r.Uint32())
		}
		build, opening := played(t, b)
		builds[build]++
		opens[opening]++
	}
	// The scripts are worth something: they meet each error.
	for _, e := range []api.Errno{api.OK, api.ErrArg, api.ErrOrder} {
		if builds[e] < 100 {
			t.Errorf("Build answered %d just %d times", e, builds[e])
		}
	}
	for _, e := range []api.Errno{api.OK, api.ErrCorrupt} {
		if opens[e] < 100 {
			t.Errorf("Open answered %d just %d times", e, opens[e])
		}
	}
}

func FuzzScript(f *testing.F) {
	f.Add([]byte("\x02\x0a\x01\x03aaaabbbbccccdddd"))
	f.Add([]byte("\x01\x01\x01\x20\x00\x09\x01\x09\x00\x05\x00\x09\x00\x02\x01\x09\x01\x02\x03\x09"))
	f.Fuzz(func(t *testing.T, b []byte) {
		played(t, b[:min(len(b), 800)])
	})
}

// FuzzOpen lays pieces together, under the right checksums, that may be those of a table or not.
func FuzzOpen(f *testing.F) {
	for _, l := range samples() {
		if r := rawOf(l, 2, 10); len(r.blocks[0]) < 500 {
			_, filter, index := r.body()
			f.Add(slices.Concat(r.blocks...), len(r.blocks[0]), r.filter, r.index, filter, index, r.entries)
		}
	}
	f.Fuzz(func(t *testing.T, blocks []byte, cut int, filter, index []byte, filterAt, indexAt, entries uint64) {
		cut = max(0, min(cut, len(blocks)))
		r := raw{blocks: [][]byte{blocks[:cut], blocks[cut:]}, filter: filter, index: index, entries: entries}
		body, _, _ := r.body()
		for _, b := range [][]byte{r.bytes(), footed(body, filterAt, indexAt, entries), blocks} {
			x, e := Open(b)
			m, ok := opened(b)
			if ok != (e == api.OK) || ok != (x != nil) || !ok && e != api.ErrCorrupt {
				t.Fatalf("Open of %v: %v, %d; not %v", b, x != nil, e, ok)
			}
			if !ok {
				continue
			}
			says(t, x, m)
			scans(t, x, m, api.Span{})
			for _, last := range m.lasts {
				gets(t, x, m, last.Key, last.Seq)
				gets(t, x, m, last.Key, last.Seq-1)
				scans(t, x, m, api.Span{From: last.Key, To: last.Key + "\x00"})
			}
		}
	})
}
