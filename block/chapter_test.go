package block

import (
	"bytes"
	"slices"
	"testing"

	"stagepost/api"
)

// chapter are the entries of the chapter's examples.
func chapter() []api.Entry {
	return list(api.Entry{Key: "ab", Seq: 3, Value: "x"}, del("ab", 1), api.Entry{Key: "abc", Seq: 2, Value: "y"})
}

func TestExamplesOfTheChapter(t *testing.T) {
	want := []byte{3, 0, 2, 97, 98, 3, 0, 1, 120, 2, 0, 1, 1, 2, 1, 99, 2, 0, 1, 121}
	b, e := Encode(chapter())
	if e != api.OK || !bytes.Equal(b, want) {
		t.Errorf("Encode: %v, %v", b, e)
	}
	if l, e := Decode(want); e != api.OK || !slices.Equal(l, chapter()) {
		t.Errorf("Decode: %s, %v", brief(l), e)
	}
	answers(t, "Check of none", Check(nil), api.ErrArg)
	answers(t, "Check of (a, 1) (a, 2)", Check(list(put("a", 1), put("a", 2))), api.ErrOrder)
	if got, ok := Find(chapter(), "ab", 2); got != del("ab", 1) || !ok {
		t.Errorf("Find of ab at 2: %s, %v", brief(list(got)), ok)
	}
	if got, ok := Find(chapter(), "b", 9); got != (api.Entry{}) || ok {
		t.Errorf("Find of b at 9: %s, %v", brief(list(got)), ok)
	}
	dead := list(del("a", 5), api.Entry{Key: "a", Seq: 2, Value: "v"})
	for _, x := range []struct {
		l    []api.Entry
		keep []int
		last bool
		want []api.Entry
	}{
		{chapter(), []int{1}, false, chapter()},
		{chapter(), nil, true, list(chapter()[0], chapter()[2])},
		{dead, nil, false, dead[:1]},
		{dead, nil, true, nil},
	} {
		if got := Fold(x.l, x.keep, x.last); !slices.Equal(got, x.want) {
			t.Errorf("Fold of %s, keep %v, last %v: %s", brief(x.l), x.keep, x.last, brief(got))
		}
	}
}
