package frame

import (
	"bytes"
	"slices"
	"testing"

	"stagepost/api"
)

// These are the tests of P3.1.

func TestAppendOfExamples(t *testing.T) {
	none := []byte{0, 0, 0, 0, 199, 75, 103, 72, 0, 0, 0, 0}
	digits := slices.Concat(head(9), []byte("123456789\x83\x92\x06\xE3"))
	for _, c := range []struct{ b, record, want []byte }{
		{nil, nil, none},
		{nil, []byte{}, none},
		{[]byte{}, nil, none},
		{[]byte{7}, nil, slices.Concat([]byte{7}, none)},
		{none, nil, slices.Concat(none, none)},
		{nil, []byte("123456789"), digits},
		{none, []byte("123456789"), slices.Concat(none, digits)},
	} {
		if got, e := Append(c.b, c.record); e != api.OK || !bytes.Equal(got, c.want) {
			t.Errorf("Append of %v and %v: %v, %v", c.b, c.record, got, e)
		}
	}
}

func TestAppendPutsTheFrameBehindWhateverBytes(t *testing.T) {
	for _, b := range append(some(), tails()...) {
		for _, record := range some() {
			got, e := Append(b, record)
			if want := slices.Concat(b, framed(record)); e != api.OK || !bytes.Equal(got, want) {
				t.Fatalf("Append of %v and %v: %v, %v, not %v", short(b), short(record), short(got), e, short(want))
			}
			if len(got) != len(b)+len(record)+12 {
				t.Fatalf("Append of %d and %d bytes has %d", len(b), len(record), len(got))
			}
		}
	}
}

func TestAppendTellsTheLowestByteFirst(t *testing.T) {
	for n, want := range map[int][]byte{
		0:       {0, 0, 0, 0},
		1:       {1, 0, 0, 0},
		255:     {255, 0, 0, 0},
		256:     {0, 1, 0, 0},
		258:     {2, 1, 0, 0},
		65536:   {0, 0, 1, 0},
		66051:   {3, 2, 1, 0},
		1 << 20: {0, 0, 16, 0},
	} {
		if got, e := Append(nil, make([]byte, n)); e != api.OK || !bytes.Equal(got[:4], want) {
			t.Errorf("Append of %d bytes tells %v, %v", n, short(got), e)
		}
	}
}

func TestAppendOfTheLongestRecord(t *testing.T) {
	for _, n := range []int{1<<20 - 1, 1 << 20} {
		record := mixed(n)
		for _, b := range [][]byte{nil, {1, 2, 3}, framed([]byte("ahead"))} {
			got, e := Append(b, record)
			if e != api.OK || !bytes.Equal(got, slices.Concat(b, framed(record))) {
				t.Errorf("Append of %v and %d bytes: %v, %v", b, n, short(got), e)
			}
		}
	}
}

func TestAppendOfARecordThatIsTooLong(t *testing.T) {
	for _, n := range []int{1<<20 + 1, 1<<20 + 2, 1 << 21, 1 << 24} {
		for _, b := range [][]byte{nil, {}, {1, 2, 3}, framed([]byte("ahead"))} {
			if got, e := Append(b, make([]byte, n)); got != nil || e != api.ErrLong {
				t.Errorf("Append of %v and %d bytes: %v, %v", b, n, short(got), e)
			}
		}
	}
}

// TestAppendLimitsTheRecordAlone has more than 2^20 bytes ahead of the frame.
func TestAppendLimitsTheRecordAlone(t *testing.T) {
	b := mixed(1<<20 + 5)
	if got, e := Append(b, []byte("a")); e != api.OK || !bytes.Equal(got, slices.Concat(b, framed([]byte("a")))) {
		t.Errorf("Append behind %d bytes: %v, %v", len(b), short(got), e)
	}
}
