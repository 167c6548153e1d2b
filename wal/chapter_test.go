package wal

import (
	"bytes"
	"testing"

	"stagepost/api"
)

// TestExamplesOfTheChapter goes through them one behind the other.
func TestExamplesOfTheChapter(t *testing.T) {
	answers(t, "Check of put a twice", Check(list(put("a", "1"), put("a", "2"))), api.ErrThere)
	answers(t, "Check of no writes", Check(nil), api.ErrArg)
	answers(t, "Check of a delete with a value", Check([]api.Write{{Key: "a", Value: "1", Del: true}}), api.ErrArg)

	if b, e := Encode(batch(1, put("a", "1"))); e != api.OK || !bytes.Equal(b, []byte{1, 1, 0, 1, 97, 1, 49}) {
		t.Errorf("Encode: %v, %v", b, e)
	}
	if s, e := Name(7); s != "wal-000007" || e != api.OK {
		t.Errorf("Name(7): %q, %v", s, e)
	}
	if s, e := Name(0); s != "" || e != api.ErrArg {
		t.Errorf("Name(0): %q, %v", s, e)
	}

	f := fresh(t, 10000)
	w := tells(t, f, 1, 0, nil, 0, 1)
	appends(t, w, 1, put("a", "1"))
	appends(t, w, 2, del("a"))
	is(t, w, 2, 1)

	tells(t, f, 1, 1, []api.Batch{batch(2, del("a"))}, 2, 2)
	refuses(t, f, 1, 5, api.ErrCorrupt)
	tells(t, f, 2, 2, nil, 2, 3)
}
