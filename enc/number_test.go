package enc

import (
	"bytes"
	"math"
	"math/bits"
	"testing"

	"stagepost/api"
)

func TestAppendPutsTheBytesOfANumberBehind(t *testing.T) {
	for _, c := range []struct {
		ahead []byte
		x     uint64
		want  []byte
	}{
		{nil, 0, []byte{0}},
		{[]byte{}, 1, []byte{1}},
		{nil, 127, []byte{127}},
		{nil, 128, []byte{128, 1}},
		{nil, 129, []byte{129, 1}},
		{nil, 255, []byte{255, 1}},
		{nil, 300, []byte{172, 2}},
		{nil, 16383, []byte{255, 127}},
		{nil, 16384, []byte{128, 128, 1}},
		{nil, math.MaxInt64, []byte{255, 255, 255, 255, 255, 255, 255, 255, 127}},
		{nil, 1 << 63, []byte{128, 128, 128, 128, 128, 128, 128, 128, 128, 1}},
		{nil, math.MaxUint64, []byte{255, 255, 255, 255, 255, 255, 255, 255, 255, 1}},
		{[]byte{9, 128}, 300, []byte{9, 128, 172, 2}},
		{[]byte{0}, 0, []byte{0, 0}},
	} {
		if got := Append(c.ahead, c.x); !bytes.Equal(got, c.want) {
			t.Errorf("Append of %v and %d: %v, not %v", c.ahead, c.x, got, c.want)
		}
	}
}

func TestAppendHasAsManyGroupsAsANumberNeeds(t *testing.T) {
	for _, x := range numbers() {
		b := Append(nil, x)
		if want := max(1, (bits.Len64(x)+6)/7); len(b) != want {
			t.Errorf("Append of %d has %d bytes, not %d", x, len(b), want)
		}
		for i, c := range b {
			want := byte(x>>(7*i)) & 127
			if i < len(b)-1 {
				want += 128
			}
			if c != want {
				t.Errorf("Append of %d: byte %d is %d, not %d", x, i, c, want)
			}
		}
	}
}

func TestReadIsHeldByTheFirstNumberAlone(t *testing.T) {
	for _, x := range numbers() {
		b := Append(nil, x)
		for _, behind := range [][]byte{nil, {0}, {1}, {9, 9}, {128}, {255, 255}} {
			y, n, e := Read(append(bytes.Clone(b), behind...))
			if y != x || n != len(b) || e != api.OK {
				t.Errorf("Read of the bytes of %d, and %v: %d, %d, %v", x, behind, y, n, e)
			}
		}
	}
}

// bad are bytes that begin with those of no number.
func bad() [][]byte {
	full := bytes.Repeat([]byte{255}, 9)
	none := bytes.Repeat([]byte{128}, 9)
	return [][]byte{
		nil, {}, {128}, {255}, {172}, {128, 128},
		{128, 0}, {129, 0}, {255, 0}, {128, 128, 0}, {172, 130, 0}, {128, 0, 1},
		full, none,
		append(bytes.Clone(full), 0), append(bytes.Clone(none), 0),
		append(bytes.Clone(full), 2), append(bytes.Clone(none), 2), append(bytes.Clone(full), 3), append(bytes.Clone(full), 127),
		append(bytes.Clone(full), 128), append(bytes.Clone(full), 129), append(bytes.Clone(full), 255),
		append(bytes.Clone(full), 129, 0), append(bytes.Clone(none), 128, 1), append(bytes.Clone(full), 255, 1), append(bytes.Clone(full), 129, 1),
		bytes.Repeat([]byte{128}, 100), bytes.Repeat([]byte{255}, 100),
	}
}

func TestReadRefusesWhatIsNoNumber(t *testing.T) {
	for _, b := range bad() {
		if x, n, e := Read(b); x != 0 || n != 0 || e != api.ErrBad {
			t.Errorf("Read of %v: %d, %d, %v", b, x, n, e)
		}
		if x, n, e := Small(b, math.MaxInt); x != 0 || n != 0 || e != api.ErrBad {
			t.Errorf("Small of %v: %d, %d, %v", b, x, n, e)
		}
	}
}

func TestReadOfAllTwoBytes(t *testing.T) {
	want := map[[2]byte][2]int{} // the number, and its bytes
	for x := range 1 << 14 {
		b := Append(nil, uint64(x))
		if len(b) == 2 {
			want[[2]byte(b)] = [2]int{x, 2}
			continue
		}
		for c := range 256 {
			want[[2]byte{b[0], byte(c)}] = [2]int{x, 1}
		}
	}
	for i := range 1 << 16 {
		b := [2]byte{byte(i), byte(i >> 8)}
		x, n, e := Read(b[:])
		w, ok := want[b]
		if x != uint64(w[0]) || n != w[1] || (e == api.OK) != ok || !ok && e != api.ErrBad {
			t.Fatalf("Read of %v: %d, %d, %v", b, x, n, e)
		}
	}
}

func TestSmallRefusesWhatIsAboveMost(t *testing.T) {
	for _, c := range []struct {
		x    uint64
		most int
		want api.Errno
	}{
		{0, 0, api.OK},
		{1, 0, api.ErrBad},
		{0, -1, api.ErrBad},
		{0, math.MinInt, api.ErrBad},
		{5, -1, api.ErrBad},
		{math.MaxUint64, -1, api.ErrBad},
		{1 << 63, math.MinInt, api.ErrBad},
		{299, 300, api.OK},
		{300, 300, api.OK},
		{301, 300, api.ErrBad},
		{math.MaxInt, math.MaxInt, api.OK},
		{math.MaxInt, math.MaxInt - 1, api.ErrBad},
		{math.MaxInt + 1, math.MaxInt, api.ErrBad},
		{math.MaxUint64, math.MaxInt, api.ErrBad},
	} {
		b := Append(nil, c.x)
		x, n, e := Small(append(b, 7), c.most)
		if e != c.want {
			t.Errorf("Small of %d up to %d: %v, not %v", c.x, c.most, e, c.want)
		}
		if e == api.OK && (uint64(x) != c.x || n != len(b)) || e != api.OK && (x != 0 || n != 0) {
			t.Errorf("Small of %d up to %d: %d, %d, %v", c.x, c.most, x, n, e)
		}
	}
}
