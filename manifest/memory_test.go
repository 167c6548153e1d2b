package manifest

import (
	"bytes"
	"slices"
	"testing"
	"unsafe"

	"stagepost/api"
)

// These are the tests of rule 4: an answer is new memory, what is handed in stays as it is and is not kept.

const spare = 8

// oddMeta is a table's words by which a change is seen.
func oddMeta() api.Meta { return meta(-77, -77, -77, "odd", "odd") }

// roomy is l with spare room behind it that is filled with something by which a change is seen.
func roomy[T any](l []T, filler T) []T {
	all := slices.Repeat([]T{filler}, len(l)+spare)
	return all[:copy(all, l)]
}

// untouched says whether l has what it had, and its spare room what roomy filled it with.
func untouched[T comparable](l, want []T, filler T) bool {
	return slices.Equal(l, want) && slices.Equal(l[len(l):cap(l)], slices.Repeat([]T{filler}, spare))
}

// spoil writes over all of l, its spare room too.
func spoil[T any](l []T, filler T) {
	for i := range l[:cap(l)] {
		l[:cap(l)][i] = filler
	}
}

// empty says that the spare room behind an answer holds nothing.
func empty[T comparable](t testing.TB, what string, l []T) {
	t.Helper()
	var zero T
	for _, x := range l[len(l):cap(l)] {
		if x != zero {
			t.Errorf("%s: the spare room holds %v", what, x)
		}
	}
}

// soft is a text whose bytes can be written over, as nobody should, and the call that does so.
func soft(s string) (string, func()) {
	b := []byte(s)
	return unsafe.String(unsafe.SliceData(b), len(b)), func() { spoil(b[:len(b):len(b)], 'X') }
}

// softs is l with such texts, and the call that writes over all of them.
func softs(l []api.Meta) ([]api.Meta, func()) {
	var out []api.Meta
	var all []func()
	for _, x := range l {
		var changeFirst, changeLast func()
		x.First, changeFirst = soft(x.First)
		x.Last, changeLast = soft(x.Last)
		out = append(out, x)
		all = append(all, changeFirst, changeLast)
	}
	return out, func() {
		for _, change := range all {
			change()
		}
	}
}

// handed is what a call may be handed: lists with spare room and texts that can be written over.
type handed struct {
	v      api.Version
	e      api.Edit
	was    api.Version
	edit   api.Edit
	change func()
}

func hand(v api.Version, e api.Edit) *handed {
	tables, changeTables := softs(v.Tables)
	adds, changeAdds := softs(e.Adds)
	h := &handed{v: v, e: e, was: v, edit: e}
	h.v.Tables = roomy(tables, oddMeta())
	h.e.Adds, h.e.Drops = roomy(adds, oddMeta()), roomy(e.Drops, -77)
	h.change = func() {
		changeTables()
		changeAdds()
		spoil(h.v.Tables, oddMeta())
		spoil(h.e.Adds, oddMeta())
		spoil(h.e.Drops, -77)
	}
	return h
}

// left says that nothing was changed of what was handed in.
func (h *handed) left(t testing.TB, what string) {
	t.Helper()
	if !untouched(h.v.Tables, h.was.Tables, oddMeta()) || !untouched(h.e.Adds, h.edit.Adds, oddMeta()) || !untouched(h.e.Drops, h.edit.Drops, -77) {
		t.Errorf("%s changed what it was handed: %s, %s", what, brief(h.v), briefEdit(h.e))
	}
}

// cases are versions and edits of them, some of which do not go.
func cases() map[string][2]any {
	v := sample()
	return map[string][2]any{
		"drops and adds":        {v, edit(numbers(9, 4), metas(meta(12, 1, 7, "a", "b")), 4, 71, 13)},
		"adds alone":            {v, edit(nil, metas(meta(13, 2, 7, "x", "y"), meta(12, 0, 7, "a", "b")), 4, 71, 14)},
		"drops alone":           {v, edit(numbers(9, 7, 6), nil, 4, 71, 13)},
		"the last one goes":     {v, edit(numbers(11), nil, 4, 71, 13)},
		"nothing":               {v, edit(nil, nil, 3, 70, 12)},
		"all go":                {v, edit(numbers(9, 7, 6, 4, 8, 1, 2, 5, 11), nil, 3, 70, 12)},
		"of no tables":          {one(), edit(nil, metas(meta(2, 1, 1, "c", "d"), meta(1, 1, 1, "a", "b")), 1, 0, 3)},
		"nothing of nothing":    {one(), edit(nil, nil, 1, 0, 1)},
		"one that does not go":  {v, edit(numbers(9, 3), metas(meta(12, 1, 7, "a", "b")), 4, 71, 13)},
		"one that shares a key": {v, edit(numbers(9), metas(meta(13, 1, 7, "a", "b"), meta(12, 0, 1, "z", "z")), 4, 71, 14)},
		"one that falls":        {v, edit(numbers(9), metas(meta(13, 4, 7, "a", "b"), meta(12, 0, 1, "z", "z")), 2, 71, 14)},
		"odd words":             {v, edit(numbers(0), metas(meta(13, 9, 7, "b", "a"), meta(12, 0, 1, "z", "z")), 2, 71, 14)},
		"a version in disorder": {version(1, 0, 9, meta(1, 3, 1, "a", "b"), meta(2, 0, 1, "a", "b")), edit(nil, metas(meta(3, 0, 1, "z", "z")), 1, 0, 9)},
	}
}

func TestCallsLeaveWhatTheyAreHanded(t *testing.T) {
	for what, c := range cases() {
		v, e := c[0].(api.Version), c[1].(api.Edit)
		h := hand(v, e)
		Check(h.v)
		h.left(t, what+": Check")
		Behind(h.v, h.e)
		h.left(t, what+": Behind")
		From(h.v)
		h.left(t, what+": From")
		Encode(h.e)
		h.left(t, what+": Encode")
		if Check(v) == api.OK {
			_, m := known(t, v, 1000)
			m.Add(h.e)
			h.left(t, what+": Add")
		}
	}
}

func TestBehindAnswersNewMemory(t *testing.T) {
	for what, c := range cases() {
		v, e := c[0].(api.Version), c[1].(api.Edit)
		want, fault := behindModel(v, e)
		if fault != api.OK {
			continue
		}
		h := hand(v, e)
		one, _ := Behind(h.v, h.e)
		other, _ := Behind(h.v, h.e)
		empty(t, what, one.Tables)
		spoil(one.Tables, oddMeta())
		h.left(t, what+": who writes over what Behind answered")
		h.change()
		if !sameVersion(other, want) {
			t.Errorf("%s: Behind's answer shares memory: %s, not %s", what, brief(other), brief(want))
		}
	}
}

func TestFromAnswersNewMemory(t *testing.T) {
	for what, v := range goodVersions() {
		h := hand(v, api.Edit{})
		one, other := From(h.v), From(h.v)
		empty(t, what, one.Adds)
		spoil(one.Adds, oddMeta())
		h.left(t, what+": who writes over what From answered")
		h.change()
		if !sameEdit(other, edit(nil, v.Tables, v.Log, v.Seq, v.Next)) {
			t.Errorf("%s: From's answer shares memory: %s", what, briefEdit(other))
		}
	}
}

func TestEncodeAnswersNewMemory(t *testing.T) {
	for what, e := range goodEdits() {
		h := hand(api.Version{}, e)
		one, _ := Encode(h.e)
		other, _ := Encode(h.e)
		empty(t, what, one)
		spoil(one, 77)
		h.left(t, what+": who writes over what Encode answered")
		h.change()
		if !bytes.Equal(other, plain(e)) {
			t.Errorf("%s: Encode's answer shares memory", what)
		}
	}
}

func TestDecodeAnswersNewMemory(t *testing.T) {
	for what, e := range goodEdits() {
		was := plain(e)
		b := roomy(was, 170)
		one, _ := Decode(b)
		other, fault := Decode(b)
		empty(t, what, one.Adds)
		empty(t, what, one.Drops)
		spoil(one.Adds, oddMeta())
		spoil(one.Drops, -77)
		if !untouched(b, was, 170) {
			t.Errorf("%s: Decode changed what it was handed", what)
		}
		spoil(b, 77)
		if fault != api.OK || !sameEdit(other, e) {
			t.Errorf("%s: Decode's answer shares memory: %s", what, briefEdit(other))
		}
	}
	// What is no edit stays as it is, too.
	for _, was := range [][]byte{nil, {1}, {0, 1, 1, 0, 1, 1, 'a', 128, 4, 'b', 1, 0, 1}, {0, 0, 1, 0, 1, 0}} {
		b := roomy(was, 170)
		if _, e := Decode(b); e != api.ErrBad || !untouched(b, was, 170) {
			t.Errorf("Decode of %v: %d", was, e)
		}
	}
}

// TestDecodeDoesNotReadSpareRoom: what is missing stands there.
func TestDecodeDoesNotReadSpareRoom(t *testing.T) {
	b := plain(edit(numbers(200, 1), metas(meta(300, 6, 128, "ab", "b")), 127, 1<<30, 999999))
	for n := range b {
		bad(t, "a first part", b[:n])
	}
	all := append(slices.Clone(b), b...)
	decodes(t, all[:len(b)])
}

// TestSpareRoomIsNotRead: what stands there may be what no list may have.
func TestSpareRoomIsNotRead(t *testing.T) {
	tables := append(slices.Clone(sample().Tables), oddMeta(), oddMeta())
	v := version(3, 70, 12, tables[:9]...)
	e := edit(numbers(9, -1, -1)[:1], metas(meta(12, 2, 1, "a", "b"), oddMeta())[:1], 3, 70, 13)
	checks(t, "a first part", v, api.OK)
	got, fault := Behind(v, e)
	want, _ := behindModel(sample(), e)
	if fault != api.OK || !sameVersion(got, want) {
		t.Errorf("Behind: %s, %d", brief(got), fault)
	}
	encodes(t, "a first part", e, api.OK)
	if from := From(v); !sameEdit(from, From(sample())) {
		t.Errorf("From: %s", briefEdit(from))
	}
}

// TestVersionAnswersNewMemory: of two like answers one is written over, the other one and the manifest stay.
func TestVersionAnswersNewMemory(t *testing.T) {
	for what, v := range goodVersions() {
		if len(whole(v)) > 1<<20 {
			continue
		}
		f, m := known(t, v, 1000)
		one, other := m.Version(), m.Version()
		empty(t, what, one.Tables)
		spoil(one.Tables, oddMeta())
		if !sameVersion(other, v) {
			t.Errorf("%s: Version's answer shares memory: %s", what, brief(other))
		}
		is(t, m, v, 4)
		spoil(other.Tables, oddMeta())
		next := v
		next.Log = 999999
		added(t, m, edit(nil, nil, 999999, v.Seq, v.Next), next)
		done(t, f.Remove("other"))
		tells(t, f, next, 5)
	}
}

// TestAddKeepsNothingOfWhatItIsHanded: what becomes of it behind the call is seen neither in the version nor in the file.
func TestAddKeepsNothingOfWhatItIsHanded(t *testing.T) {
	for what, c := range cases() {
		v, e := c[0].(api.Version), c[1].(api.Edit)
		want, fault := behindModel(v, e)
		if fault != api.OK {
			continue
		}
		f, m := known(t, v, 2000)
		h := hand(v, e)
		answers(t, what, m.Add(h.e), api.OK)
		answer := m.Version()
		h.change()
		is(t, m, want, 4)
		if !sameVersion(answer, want) {
			t.Errorf("%s: an answer was changed from outside: %s", what, brief(answer))
		}
		last := edit(nil, nil, want.Log, want.Seq, want.Next)
		added(t, m, last, want)
		done(t, f.Remove("other"))
		tells(t, f, want, 5)
	}
}

// TestAVersionIsHandedByValue: what an Add makes of the version is not seen in one that was answered ahead of it.
func TestAVersionIsHandedByValue(t *testing.T) {
	f, m := known(t, sample(), 1000)
	was := m.Version()
	kept := slices.Clone(was.Tables)
	for _, e := range []api.Edit{edit(numbers(9), nil, 3, 70, 12), edit(nil, metas(meta(12, 0, 1, "a", "b")), 3, 70, 13), edit(numbers(12, 11), nil, 4, 71, 14)} {
		done(t, m.Add(e))
	}
	if !slices.Equal(was.Tables, kept) || was.Log != 3 || was.Next != 12 {
		t.Errorf("the old version became %s", brief(was))
	}
	if v, fault := Behind(was, edit(numbers(9), nil, 3, 70, 12)); fault != api.OK || len(v.Tables) != 8 || !slices.Equal(was.Tables, kept) {
		t.Errorf("Behind: %s, %d; of %s", brief(v), fault, brief(was))
	}
	done(t, f.Remove("other"))
}
