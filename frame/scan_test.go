package frame

import (
	"bytes"
	"slices"
	"testing"

	"stagepost/api"
)

// These are the tests of P3.3.

func TestScanOfExamples(t *testing.T) {
	one, _ := Append(nil, []byte("first"))
	two, _ := Append(one, []byte("second"))
	scans(t, two[:len(two)-1], [][]byte{[]byte("first")}, len(one), api.ErrMissing)
	scans(t, two, [][]byte{[]byte("first"), []byte("second")}, len(two), api.OK)
}

func TestScanOfNoBytes(t *testing.T) {
	scans(t, nil, nil, 0, api.OK)
	scans(t, []byte{}, nil, 0, api.OK)
}

func TestScanOfOneFrame(t *testing.T) {
	for _, record := range some() {
		scans(t, framed(record), [][]byte{record}, len(record)+12, api.OK)
	}
}

func TestScanOfSomeFrames(t *testing.T) {
	all := some()
	for n := range len(all) {
		b := framed(all[:n]...)
		scans(t, b, all[:n], len(b), api.OK)
	}
	slices.Reverse(all)
	scans(t, framed(all...), all, len(framed(all...)), api.OK)
}

func TestScanOfManyFrames(t *testing.T) {
	records := make([][]byte, 3000)
	for i := range records {
		records[i] = mixed(i % 5)
	}
	scans(t, framed(records...), records, len(framed(records...)), api.OK)
}

func TestScanOfTheLongestRecords(t *testing.T) {
	records := [][]byte{[]byte("first"), mixed(1 << 20), nil, make([]byte, 1<<20)}
	b := framed(records...)
	scans(t, b, records, len(b), api.OK)
	scans(t, b[:len(b)-1], records[:3], len(b)-1<<20-12, api.ErrMissing)
	scans(t, slices.Concat(b, head(1<<20+1), sealed(make([]byte, 1<<20+1))), records, len(b), api.ErrCorrupt)
}

// behind are some frames, and bad bytes behind them.
func behind(t *testing.T, bad []byte, e api.Errno) {
	t.Helper()
	for _, records := range [][][]byte{nil, {nil}, {[]byte("first")}, {[]byte("first"), nil, mixed(300)}} {
		b := framed(records...)
		scans(t, slices.Concat(b, bad), records, len(b), e)
	}
}

func TestScanOfATornEnd(t *testing.T) {
	for _, record := range [][]byte{nil, []byte("second"), mixed(40)} {
		b := framed(record)
		for n := 1; n < len(b); n++ {
			behind(t, b[:n], api.ErrMissing)
		}
	}
	for n := 1; n < 8; n++ {
		behind(t, mixed(n), api.ErrMissing)
	}
	behind(t, head(1<<20), api.ErrMissing)
}

// TestScanOfAnAlteredFrame has good frames behind it too: they are not told.
func TestScanOfAnAlteredFrame(t *testing.T) {
	for _, record := range [][]byte{nil, []byte("second"), mixed(40)} {
		good := framed(record)
		for i := range good {
			b := bytes.Clone(good)
			b[i] ^= 16
			behind(t, b, api.ErrCorrupt)
			behind(t, slices.Concat(b, good), api.ErrCorrupt)
			behind(t, slices.Concat(b, good[:5]), api.ErrCorrupt)
		}
	}
	behind(t, head(1<<20+1), api.ErrCorrupt)
	behind(t, make([]byte, 50), api.ErrCorrupt)
	behind(t, bytes.Repeat([]byte{255}, 50), api.ErrCorrupt)
}

func TestScanOfBytesThatAreNoFrames(t *testing.T) {
	for n := 8; n < 64; n++ {
		scans(t, mixed(n), nil, 0, api.ErrCorrupt)
		scans(t, make([]byte, n), nil, 0, api.ErrCorrupt)
	}
	for n := 1; n < 8; n++ {
		scans(t, mixed(n), nil, 0, api.ErrMissing)
	}
	scans(t, framed([]byte("first"))[1:], nil, 0, api.ErrCorrupt)
}

func FuzzScan(f *testing.F) {
	for _, record := range some() {
		f.Add(record, 0)
		f.Add(framed(record, []byte("second"), nil), 7)
	}
	f.Fuzz(func(t *testing.T, b []byte, cut int) {
		frames := framed(b, nil, b[:len(b)/2], b)
		cut = max(cut, -(cut+1)) % (len(frames) + 1)
		for _, c := range [][]byte{b, frames[:cut], slices.Concat(frames[:cut], b), slices.Concat(frames, b)} {
			all, n, e := toldAll(c)
			var records [][]byte
			for _, p := range all {
				records = append(records, p.record)
			}
			scans(t, c, records, n, e)
		}
	})
}

// These are the tests of Each alone; that it goes over Scan's records at their places is asked wherever Scan is.

func TestEachTellsThePlaceOfEachFrame(t *testing.T) {
	b := framed(nil, []byte("first"), nil, []byte("second"))
	want := []place{{0, nil}, {12, []byte("first")}, {29, nil}, {41, []byte("second")}}
	if got := gone(Each(b)); !slices.EqualFunc(got, want, samePlace) {
		t.Errorf("Each: %v, not %v", got, want)
	}
	for at, record := range Each(b) {
		if got, _, e := Read(b[at:]); e != api.OK || !bytes.Equal(got, record) {
			t.Errorf("Each tells %v at %d; Read there: %v, %v", record, at, got, e)
		}
	}
}

// ends are bytes that Each goes over in all ways in which a scan ends.
func ends() [][]byte {
	good := framed(nil, []byte("first"), mixed(30), nil, []byte("second"))
	altered := bytes.Clone(good)
	altered[12+9] ^= 1
	return [][]byte{nil, {}, {1}, mixed(40), framed(nil), good, good[:len(good)-1], altered, slices.Concat(good, make([]byte, 20))}
}

func TestEachIsNeverNil(t *testing.T) {
	for _, b := range ends() {
		if Each(b) == nil {
			t.Errorf("Each of %v is nil", b)
		}
	}
}

func TestEachMayBeStopped(t *testing.T) {
	for _, b := range ends() {
		all := gone(Each(b))
		each := Each(b)
		for n := 1; n <= len(all); n++ {
			var got []place
			each(func(at int, record []byte) bool {
				got = append(got, place{at, record})
				return len(got) < n
			})
			if !slices.EqualFunc(got, all[:n], samePlace) {
				t.Errorf("Each, stopped at the record %d: %v, not %v", n, got, all[:n])
			}
		}
		if got := gone(each); !slices.EqualFunc(got, all, samePlace) {
			t.Errorf("Each, gone over behind the stops: %v, not %v", got, all)
		}
	}
}

func TestEachMayBeLeftFromALoop(t *testing.T) {
	b := framed([]byte("a"), []byte("b"), []byte("c"))
	seen := 0
	for at := range Each(b) {
		seen++
		if at == 13 {
			break
		}
	}
	if seen != 2 {
		t.Errorf("Each, left at the second record, went over %d", seen)
	}
}

func TestEachMayBeGoneOverAgain(t *testing.T) {
	for _, b := range ends() {
		each := Each(b)
		one, other := gone(each), gone(each)
		if !slices.EqualFunc(one, other, samePlace) {
			t.Errorf("Each, gone over twice: %v, then %v", one, other)
		}
		for _, outer := range gone(each) {
			for at, record := range each {
				if at == outer.at && !bytes.Equal(record, outer.record) {
					t.Errorf("Each within Each: %v, not %v", record, outer.record)
				}
			}
		}
	}
}
