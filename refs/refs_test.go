package refs_test

import (
	"math"
	"slices"
	"strings"
	"testing"

	"espalier/api"
	"espalier/disk"
	"espalier/refs"
)

func ref(name string, id api.Id) api.Ref { return api.Ref{Name: name, Id: id} }

func open(t *testing.T, d *disk.Disk) *refs.Refs {
	t.Helper()
	r, err := refs.Open(d)
	if err != api.OK || r == nil {
		t.Fatalf("Open: %v %d", r, err)
	}
	return r
}

// wantOpen wants Open to answer an error, and nothing beside it.
func wantOpen(t *testing.T, what string, d *disk.Disk, asked api.Errno) {
	t.Helper()
	if r, err := refs.Open(d); err != asked || r != nil {
		t.Errorf("Open of %s: %v %d, not %d", what, r, err, asked)
	}
}

// set sets what may be set.
func set(t *testing.T, r *refs.Refs, l ...api.Ref) {
	t.Helper()
	if err := r.Set(l...); err != api.OK {
		t.Fatalf("Set(%v): %d", l, err)
	}
}

func wantSet(t *testing.T, what string, r *refs.Refs, asked api.Errno, l ...api.Ref) {
	t.Helper()
	if err := r.Set(l...); err != asked {
		t.Errorf("Set of %s: %d, not %d", what, err, asked)
	}
}

func wantWrites(t *testing.T, d *disk.Disk, asked int) {
	t.Helper()
	if writes := d.Writes(); writes != asked {
		t.Errorf("%d raw writes, not %d", writes, asked)
	}
}

func wantGet(t *testing.T, r *refs.Refs, name string, asked api.Id) {
	t.Helper()
	if id, err := r.Get(name); id != asked || err != api.OK {
		t.Errorf("Get(%q): %d %d, not %d", name, id, err, asked)
	}
}

func wantNone(t *testing.T, r *refs.Refs, asked api.Errno, names ...string) {
	t.Helper()
	for _, name := range names {
		if id, err := r.Get(name); id != 0 || err != asked {
			t.Errorf("Get(%q): %d %d, not error %d", name, id, err, asked)
		}
	}
}

func told(r *refs.Refs) []api.Ref {
	var l []api.Ref
	for name, id := range r.All() {
		l = append(l, ref(name, id))
	}
	return l
}

// wantRefs wants just these refs, which are handed in by rising names, by all calls.
func wantRefs(t *testing.T, r *refs.Refs, l ...api.Ref) {
	t.Helper()
	if got := told(r); !slices.Equal(got, l) {
		t.Errorf("All: %v, not %v", got, l)
	}
	wantUnder(t, r, "", l...)
	if r.Len() != len(l) {
		t.Errorf("Len: %d, not %d", r.Len(), len(l))
	}
	for _, one := range l {
		wantGet(t, r, one.Name, one.Id)
	}
}

func wantUnder(t *testing.T, r *refs.Refs, path string, l ...api.Ref) {
	t.Helper()
	if got := r.Under(path); !slices.Equal(got, l) {
		t.Errorf("Under(%q): %v, not %v", path, got, l)
	}
}

// The chapter's rows.
func TestExamples(t *testing.T) {
	d := disk.New()
	r := open(t, d)
	set(t, r, ref("host", 7), ref("side/a", 9))
	wantGet(t, r, "host", 7)
	wantRefs(t, r, ref("host", 7), ref("side/a", 9))
	wantFile(t, d, recordOf("\x02\x04host\x00\x00\x00\x00\x00\x00\x00\x07\x06side/a\x00\x00\x00\x00\x00\x00\x00\x09"))
	size, _ := d.Size("refs")
	set(t, r, ref("host", 7))
	if again, _ := d.Size("refs"); again != size {
		t.Errorf("%d bytes, not %d", again, size)
	}
	set(t, r, ref("host", 0))
	wantNone(t, r, api.ErrNone, "host")
	wantSet(t, "x away", r, api.ErrNone, ref("x", 0))
	wantSet(t, "the root", r, api.ErrArg, ref("", 1))
	wantSet(t, "no path", r, api.ErrName, ref("a/", 1))
	wantSet(t, "a twice", r, api.ErrThere, ref("a", 1), ref("a", 2))
	wantSet(t, "nothing", r, api.OK)
	wantUnder(t, r, "side", ref("side/a", 9))
	wantUnder(t, r, "", ref("side/a", 9))
	wantUnder(t, r, "si")
}

// R4: of nil refs.
func TestNil(t *testing.T) {
	var r *refs.Refs
	wantSet(t, "nothing", r, api.ErrNil)
	wantSet(t, "one", r, api.ErrNil, ref("a", 1))
	wantSet(t, "no path", r, api.ErrNil, ref("/", 1))
	wantNone(t, r, api.ErrNil, "", "a", "/")
	wantUnder(t, r, "a")
	wantUnder(t, r, "/")
	wantRefs(t, r)
}

// P8.3: Get goes by the whole name alone.
func TestGet(t *testing.T) {
	r := open(t, disk.New())
	wantNone(t, r, api.ErrNone, "", "a", "a/b", "/", strings.Repeat("x", 300))
	set(t, r, ref("a/b", 1), ref("ab", math.MaxUint64), ref("é c", 2))
	wantGet(t, r, "a/b", 1)
	wantGet(t, r, "ab", math.MaxUint64)
	wantGet(t, r, "é c", 2)
	wantNone(t, r, api.ErrNone, "", "a", "b", "a/", "/a/b", "a/b/", "a/b/c", "a//b", "AB", "\xff", strings.Repeat("x", 300))
}

// P8.3: rising names are so byte by byte, not by the order of paths.
func TestAllOrder(t *testing.T) {
	r := open(t, disk.New())
	wantRefs(t, r)
	set(t, r, ref("b", 1), ref("a/b", 2), ref("a.b", 3), ref("ab", 4), ref("a", 5), ref("é", 6), ref("z", 7), ref("B", 8), ref("a b", 9), ref("a/b/c", 10))
	l := []api.Ref{ref("B", 8), ref("a", 5), ref("a b", 9), ref("a.b", 3), ref("a/b", 2), ref("a/b/c", 10), ref("ab", 4), ref("b", 1), ref("z", 7), ref("é", 6)}
	for range 20 { // a map's own order is another one each time
		wantRefs(t, r, l...)
	}
}

// P8.3: what lies in a path does so by whole names; none in what is no path.
func TestUnder(t *testing.T) {
	r := open(t, disk.New())
	wantUnder(t, r, "")
	set(t, r, ref("a", 1), ref("ab", 2), ref("a/c", 3), ref("a.b", 4), ref("a/b/c", 5), ref("b/a", 6), ref("a/b", 7))
	wantUnder(t, r, "a", ref("a", 1), ref("a/b", 7), ref("a/b/c", 5), ref("a/c", 3))
	wantUnder(t, r, "a/b", ref("a/b", 7), ref("a/b/c", 5))
	wantUnder(t, r, "a/b/c", ref("a/b/c", 5))
	wantUnder(t, r, "ab", ref("ab", 2))
	wantUnder(t, r, "b", ref("b/a", 6))
	for _, path := range []string{"c", "a/b/c/d", "a.", "A", "a/", "/", "/a", "a//b", ".", "..", "\xff", strings.Repeat("x", 300)} {
		wantUnder(t, r, path)
	}
}

// R6: All is left early, gone through again, and tells what there is when that begins, whatever is set meanwhile.
func TestAllAgain(t *testing.T) {
	r := open(t, disk.New())
	all := r.All()
	for range all {
		t.Error("told of nothing")
	}
	set(t, r, ref("a", 1), ref("b", 2), ref("c", 3))
	for range 2 {
		for name, id := range all {
			if name != "a" || id != 1 {
				t.Errorf("first %q %d", name, id)
			}
			break
		}
	}
	var outer []api.Ref
	for name, id := range all {
		outer = append(outer, ref(name, id))
		if name != "a" {
			continue
		}
		set(t, r, ref("a", 0), ref("b", 20), ref("c", 0), ref("aa", 10), ref("d", 40))
		for name, id := range all {
			outer = append(outer, ref(name, id))
			break
		}
	}
	if !slices.Equal(outer, []api.Ref{ref("a", 1), ref("aa", 10), ref("b", 2), ref("c", 3)}) {
		t.Errorf("told %v", outer)
	}
	wantRefs(t, r, ref("aa", 10), ref("b", 20), ref("d", 40))
}
