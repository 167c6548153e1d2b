package manifest

import (
	"bytes"
	"math/rand/v2"
	"testing"

	"stagepost/api"
)

// These are the tests of P10.5: what was handed in comes back.

func TestFromBehindTheFirstVersionGivesItBack(t *testing.T) {
	for what, v := range goodVersions() {
		got, e := Behind(one(), From(v))
		if e != api.OK || !sameVersion(got, v) {
			t.Errorf("%s: %s, %d; not %s", what, brief(got), e, brief(v))
		}
	}
	r := rand.New(rand.NewPCG(10, 5))
	may := 0
	for range 20000 {
		v := someVersion(r)
		got, e := Behind(one(), From(v))
		if possible(v) {
			may++
		}
		// Tables of one that may not be are put in order: that one may be, but it isn't v.
		if possible(v) && (e != api.OK || !sameVersion(got, v)) || !possible(v) && e == api.OK && sameVersion(got, v) {
			t.Fatalf("%s: %s, %d", brief(v), brief(got), e)
		}
	}
	if may < 5000 {
		t.Errorf("just %d of them may be", may)
	}
}

// TestFromHasBytes: a version that may be can always be written down, and read again.
func TestFromHasBytes(t *testing.T) {
	for what, v := range goodVersions() {
		b, e := Encode(From(v))
		if e != api.OK {
			t.Errorf("%s: Encode: %d", what, e)
			continue
		}
		back, e := Decode(b)
		if e != api.OK || !sameEdit(back, From(v)) {
			t.Errorf("%s: Decode of Encode: %s, %d", what, briefEdit(back), e)
		}
		if got, e := Behind(one(), back); e != api.OK || !sameVersion(got, v) {
			t.Errorf("%s: behind the first version: %s, %d", what, brief(got), e)
		}
	}
}

func TestDecodeOfEncodeGivesItBack(t *testing.T) {
	all := goodEdits()
	r := rand.New(rand.NewPCG(10, 6))
	for i := range 20000 {
		all[key(i, 9)] = someEdit(r)
	}
	have := 0
	for what, e := range all {
		b, fault := Encode(e)
		if fault != encodable(e) {
			t.Fatalf("%s: Encode of %s: %d", what, briefEdit(e), fault)
		}
		if fault != api.OK {
			continue
		}
		have++
		back, fault := Decode(b)
		if fault != api.OK || !sameEdit(back, e) {
			t.Fatalf("%s: %s came of %s, %d", what, briefEdit(back), briefEdit(e), fault)
		}
		if again, fault := Encode(back); fault != api.OK || !bytes.Equal(again, b) {
			t.Fatalf("%s: Encode of Decode: %d bytes, %d", what, len(again), fault)
		}
	}
	if have < 10000 {
		t.Errorf("just %d of them have bytes", have)
	}
}

// TestEncodeOfDecodeGivesItBack: of bytes that are nearly those of an edit, too.
func TestEncodeOfDecodeGivesItBack(t *testing.T) {
	r := rand.New(rand.NewPCG(10, 7))
	read := 0
	for range 50000 {
		b := plain(someEdit(r))
		for r.IntN(2) == 0 {
			b[r.IntN(len(b))] = byte(r.IntN(130))
		}
		e, fault := Decode(b)
		if fault != api.OK {
			continue
		}
		read++
		if back, fault := Encode(e); fault != api.OK || !bytes.Equal(back, b) {
			t.Fatalf("Encode of Decode of %v: %v, %d", b, back, fault)
		}
	}
	if read < 10000 || read > 49000 {
		t.Errorf("%d of them are edits", read)
	}
}

// TestSmallStepsMakeWhatAGreatOneMakes: edits one behind the other, and one that does all at once.
func TestSmallStepsMakeWhatAGreatOneMakes(t *testing.T) {
	v := sample()
	got := one()
	for i, x := range v.Tables {
		next, e := Behind(got, edit(nil, metas(x), min(i+1, 3), min(10*i, 70), 12))
		if e != api.OK {
			t.Fatalf("the table %d: %d", i, e)
		}
		got = next
	}
	if got.Log, got.Seq = 3, 70; !sameVersion(got, v) {
		t.Errorf("%s, not %s", brief(got), brief(v))
	}
	for _, x := range v.Tables {
		next, e := Behind(got, edit(numbers(x.Number), nil, 3, 70, 12))
		if e != api.OK {
			t.Fatalf("without %d: %d", x.Number, e)
		}
		got = next
	}
	if !sameVersion(got, version(3, 70, 12)) {
		t.Errorf("what is left: %s", brief(got))
	}
}
