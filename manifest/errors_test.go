package manifest

import (
	"testing"

	"stagepost/api"
)

// These are the tests of rule 5 (no manifest), and of rule 3 (an error changes nothing).

// nothing says that each method answers as of no manifest.
func nothing(t *testing.T, what string, m *Manifest) {
	t.Helper()
	for _, e := range []api.Edit{{}, edit(nil, nil, 1, 0, 1), edit(nil, metas(meta(1, 0, 3, "a", "c")), 2, 5, 2), edit(upTo(1025), nil, 1, 0, 1)} {
		answers(t, what+": Add", m.Add(e), api.ErrNil)
	}
	if v := m.Version(); !noVersion(v) {
		t.Errorf("%s: Version: %s", what, brief(v))
	}
	if m.File() != "" {
		t.Errorf("%s: File: %q", what, m.File())
	}
}

func TestNoManifest(t *testing.T) {
	var none Manifest
	refused, _ := Open(nil)
	for what, m := range map[string]*Manifest{"nil": nil, "one that nobody made": {}, "a variable": &none, "a new one": new(Manifest), "one that was refused": refused} {
		nothing(t, what, m)
		// It doesn't become one by being asked.
		nothing(t, what+", again", m)
	}
}

// TestCopiesAreNoManifests: Open answered the one that was copied, not the copy; what is tried there is not seen in the other.
func TestCopiesAreNoManifests(t *testing.T) {
	f, m := known(t, sample(), 1000)
	was := look(f)
	other := *m
	nothing(t, "a copy", &other)
	if look(f) != was {
		t.Errorf("a copy changed\n%s\ninto\n%s", was, look(f))
	}
	is(t, m, sample(), 4)
	off(t, f)
	m.Add(api.Edit{})
	later := *m
	nothing(t, "a copy of a broken one", &later)
	is(t, m, sample(), 4)
}

// TestABrokenManifestAnswersWhatItKnew: Version and File are no Errnos.
func TestABrokenManifestAnswersWhatItKnew(t *testing.T) {
	f, m := known(t, sample(), 1000)
	done(t, f.Fuse(0))
	answers(t, "Add", m.Add(edit(nil, nil, 9, 99, 99)), api.ErrOff)
	for range 3 {
		is(t, m, sample(), 4)
	}
	done(t, f.Crash(9, 9))
	is(t, m, sample(), 4)
}

// TestMethodsAsValues: what is bound to a manifest stays bound to it.
func TestMethodsAsValues(t *testing.T) {
	f := newFS(t, 1000)
	m := opened(t, f)
	add, file, get := m.Add, m.File, m.Version
	m = nil
	answers(t, "Add", add(edit(nil, nil, 2, 3, 4)), api.OK)
	if file() != named(1) || !sameVersion(get(), version(2, 3, 4)) {
		t.Errorf("File %q, Version %s", file(), brief(get()))
	}
	nothing(t, "nil", m)
}

// TestManifestsDoNotShare: each has its own file system and version.
func TestManifestsDoNotShare(t *testing.T) {
	f, m := known(t, sample(), 1000)
	g, n := known(t, version(5, 6, 7), 1000)
	added(t, m, edit(nil, nil, 4, 70, 12), version(4, 70, 12, sample().Tables...))
	is(t, n, version(5, 6, 7), 4)
	off(t, g)
	answers(t, "Add", n.Add(edit(nil, nil, 5, 6, 7)), api.ErrOff)
	added(t, m, edit(nil, nil, 5, 70, 12), version(5, 70, 12, sample().Tables...))
	if !f.On() || g.On() {
		t.Errorf("on %v, %v", f.On(), g.On())
	}
}

// TestRefusedOpensChangeNothing: neither the file system, nor a manifest that is there.
func TestRefusedOpensChangeNothing(t *testing.T) {
	f := laid(t, 999998, whole(sample()))
	m := opened(t, f)
	refuses(t, "no number is left", f, api.ErrLong)
	added(t, m, edit(nil, nil, 4, 70, 12), version(4, 70, 12, sample().Tables...))
	done(t, f.SyncNames(), f.Alter("current", 9, 1))
	refuses(t, "altered", f, api.ErrCorrupt)
	added(t, m, edit(nil, nil, 5, 70, 12), version(5, 70, 12, sample().Tables...))
	done(t, f.Alter("current", 9, 1))
	refuses(t, "no number is left", f, api.ErrLong)
	off(t, f)
	refuses(t, "off", f, api.ErrOff)
}
