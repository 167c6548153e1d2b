package bloom

import (
	"bytes"
	"math/bits"
	"testing"

	"stagepost/api"
)

func TestExamplesOfTheChapter(t *testing.T) {
	if got := Hash(""); got != 14695981039346656037 {
		t.Errorf("Hash of nothing: %d", got)
	}
	if got := Hash("a"); got != 12638187200555641996 {
		t.Errorf("Hash of a: %d", got)
	}
	if b, e := Of(nil, 10); !bytes.Equal(b, []byte{7, 0}) || e != api.OK {
		t.Errorf("Of of none, 10 bits: %v, %v", b, e)
	}
	if b, e := Of([]string{"a"}, 1); e != api.OK || len(b) != 2 || b[0] != 1 || bits.OnesCount8(b[1]) != 1 {
		t.Errorf("Of of a, 1 bit: %v, %v", b, e)
	}
	for _, c := range []struct {
		filter []byte
		want   bool
		e      api.Errno
	}{
		{[]byte{7, 255}, true, api.OK},
		{[]byte{7, 0}, false, api.OK},
		{[]byte{0, 1}, false, api.ErrBad},
		{[]byte{13, 1}, false, api.ErrBad},
		{[]byte{5}, false, api.ErrBad},
	} {
		if got, e := Has(c.filter, "x"); got != c.want || e != c.e {
			t.Errorf("Has of %v, x: %v, %v", c.filter, got, e)
		}
	}
}
