package project_test

import (
	"testing"

	"espalier/api"
	"espalier/disk"
	"espalier/pathmap"
	"espalier/project"
	"espalier/store"
)

// P15.2: files at their sources, beside what of the base has no image; what had one is gone.
func TestBack(t *testing.T) {
	s, _ := open(t)
	m := mapOf(t, move("a", "x"), drop("a/b"), move("a/b/c", "x/b/c"), move("d/e", "y/z"))
	base := made(t, s, "a/1", "1", "a/b/2", "2", "a/b/c/3", "3", "d/e/4", "4", "d/f", "5", "g", "6")
	for _, c := range []struct{ side, asked []string }{
		{nil, []string{"a/b/2", "2", "d/f", "5", "g", "6"}},
		{[]string{"x/1", "7"}, []string{"a/1", "7", "a/b/2", "2", "d/f", "5", "g", "6"}},
		{[]string{"x/b/c/8", "8", "y/z/0/9", "9"}, []string{"a/b/2", "2", "a/b/c/8", "8", "d/e/0/9", "9", "d/f", "5", "g", "6"}},
		{[]string{"x/b/c", "8", "y/z", "9"}, []string{"a/b/2", "2", "a/b/c", "8", "d/e", "9", "d/f", "5", "g", "6"}},
		{[]string{"x/0", "1", "x/bb", "2", "x/z/z", "3"}, []string{"a/0", "1", "a/b/2", "2", "a/bb", "2", "a/z/z", "3", "d/f", "5", "g", "6"}},
	} {
		side := made(t, s, c.side...)
		wantSaid(t, "Inside", true)(project.Inside(s, m, side))
		wantFiles(t, s, "Back", c.asked...)(project.Back(s, m, base, side))
	}
	for _, path := range []string{"a/1", "b", "x/b", "x/b/2", "x/b/d/e", "y", "y/y", "d/e", "xx", "y/zz"} {
		side := made(t, s, "x/1", "1", path, "2")
		before := s.Len()
		wantErr(t, "Back of "+path, api.ErrImage)(project.Back(s, m, base, side))
		wantSaid(t, "Inside of "+path, false)(project.Inside(s, m, side))
		wantSince(t, path, s, before)
	}
	wantErr(t, "Back by no rules", api.ErrImage)(project.Back(s, mapOf(t), base, base))
	want(t, "Back of nothing by no rules", base)(project.Back(s, mapOf(t), base, made(t, s)))
	want(t, "Back by all", base)(project.Back(s, pathmap.Trivial(), made(t, s, "g", "1", "h", "2"), base))
}

// P15.2: a file where a folder has to be: of the base above a source, and below one; but what goes from the base is in nobody's way.
func TestBackClash(t *testing.T) {
	s, _ := open(t)
	m := mapOf(t, move("a/b", "x"), drop("a/b/c"), move("d", "y"))
	for _, c := range []struct {
		base, side []string
		asked      api.Errno
	}{
		{[]string{"a", "1"}, []string{"x/z", "2"}, api.ErrClash},
		{[]string{"a", "1"}, []string{"x", "2"}, api.ErrClash},
		{[]string{"a", "1"}, []string{"y", "2"}, api.OK},
		{[]string{"a/b", "1"}, []string{"x/z", "2"}, api.OK},
		{[]string{"a/b/z", "1"}, []string{"x", "2"}, api.OK},
		{[]string{"a/b/c", "1"}, []string{"x", "2"}, api.ErrClash},
		{[]string{"a/b/c/d/e", "1"}, []string{"x", "2"}, api.ErrClash},
		{[]string{"a/b/c", "1"}, []string{"x/d", "2"}, api.OK},
		{[]string{"a/bb", "1", "aa", "2"}, []string{"x", "2"}, api.OK},
		{[]string{"a/b/c", "1", "z", "1"}, []string{"x", "2", "y/a", "3"}, api.ErrClash},
		{[]string{"d/e/f", "1"}, []string{"y", "2"}, api.OK},
		{[]string{"d", "1"}, []string{"y/2", "2"}, api.OK},
	} {
		base, side := made(t, s, c.base...), made(t, s, c.side...)
		before := s.Len()
		id, err := project.Back(s, m, base, side)
		if err != c.asked || (id == 0) != (err != api.OK) {
			t.Errorf("Back of %q into %q: %x %d, not %d", c.side, c.base, id, err, c.asked)
		}
		if err != api.OK {
			wantSince(t, "a clash", s, before)
		}
	}
}

// P15.2: a rule of the way back that would be too long is none, but what it says of the base stays: so a folder that goes back whole must not take its place.
func TestBackBesideLongRule(t *testing.T) {
	s, _ := open(t)
	deep := path(0, 16) // of 16 names: a/x would have 17
	m := mapOf(t, move("a", deep), drop("a/x"))
	base := made(t, s, "a/x/y", "1", "z", "2")
	if back := m.Inverse().Rules(); len(back) != 1 {
		t.Fatalf("the way back: %v", back)
	}
	side := made(t, s, deep, "3")
	wantSaid(t, "Inside of a file", true)(project.Inside(s, m, side))
	wantErr(t, "Back of a file", api.ErrClash)(project.Back(s, m, base, side))
	wantFiles(t, s, "Back of a file beside nothing", "a", "3")(project.Back(s, m, made(t, s, "a/y", "1"), side))

	wide := path(198, 0)
	m = mapOf(t, move("a", wide), drop("a/xyz"), drop("a/b/xyz"), keep("c"))
	base = made(t, s, "a/xyz/1", "1", "a/b/xyz", "2", "z", "3")
	side = made(t, s, wide+"/x", "4", "c/d", "5")
	wantFiles(t, s, "Back of a folder", "a/b/xyz", "2", "a/x", "4", "a/xyz/1", "1", "c/d", "5", "z", "3")(project.Back(s, m, base, side))
	side = made(t, s, wide+"/b", "4")
	wantErr(t, "Back of a folder onto another one", api.ErrClash)(project.Back(s, m, base, side))
	wantFiles(t, s, "Back of a folder beside nothing", "a/b", "4", "z", "3")(project.Back(s, m, made(t, s, "a/b/c", "1", "z", "3"), side))

	m = mapOf(t, move("", wide), drop("xyz"))
	side = made(t, s, wide+"/x", "4")
	wantFiles(t, s, "Back to the root", "x", "4", "xyz/1", "1")(project.Back(s, m, made(t, s, "xyz/1", "1", "q", "2"), side))
}

// P15.2: ErrImage, ErrLong of a source, ErrClash, ErrLong of a tree, and what the store says: the first of these that applies.
func TestBackFirst(t *testing.T) {
	s, d := open(t)
	blob := putBlob(t, s, "1")
	m := mapOf(t, move("n", "x"), move(path(198, 0), "y"), move("c", "z"), drop("c/d"))
	stray, more, long, clash := file("q", blob), file("x", blob), folder("y", putTree(t, s, file("ab", blob))), file("z", blob)
	clashing := folder("c", putTree(t, s, file("d", blob)))
	base := putTree(t, s, append(numbered(255, blob), clashing)...) // full, as it has no image
	sides := map[api.Id]api.Errno{
		putTree(t, s, stray, more, long, clash): api.ErrImage,
		putTree(t, s, stray, long):              api.ErrImage,
		putTree(t, s, stray, clash):             api.ErrImage,
		putTree(t, s, stray, more):              api.ErrImage,
		putTree(t, s, more, long, clash):        api.ErrLong,
		putTree(t, s, long, clash):              api.ErrLong,
		putTree(t, s, more, clash):              api.ErrClash,
		putTree(t, s, clash):                    api.ErrClash,
		putTree(t, s, more):                     api.ErrLong,
	}
	last, room := putTree(t, s, more), putTree(t, s, clashing)
	before := s.Len()
	for range 2 {
		for side, asked := range sides {
			wantErr(t, "Back", asked)(project.Back(s, m, base, side))
		}
		d.Cut(0) // what would be put in has no say
	}
	wantErr(t, "Back, cut", api.ErrCut)(project.Back(s, m, room, last))
	wantSince(t, "refused", s, before)

	// Below the tree that would be too long stands another one that is new.
	s, d = open(t)
	blob = putBlob(t, s, "1")
	m = mapOf(t, move("n", "x"), drop("n/o"), move("p", "y"))
	base = putTree(t, s, append(numbered(255, blob), folder("n", putTree(t, s, file("o", blob))))...)
	side := putTree(t, s, folder("x", putTree(t, s, file("w", blob))), file("y", blob))
	before = s.Len()
	wantErr(t, "Back of one more", api.ErrLong)(project.Back(s, m, base, side))
	wantSince(t, "one more", s, before)
	d.Cut(0)
	wantErr(t, "Back of one more, cut", api.ErrLong)(project.Back(s, m, base, side))
}

// P15.2: MaxEntries entries, and one more: at the root and in a folder, by files and by folders; what goes from the base makes room.
func TestBackFull(t *testing.T) {
	s, _ := open(t)
	blob := putBlob(t, s, "1")
	almost, full := numbered(255, blob), numbered(256, blob)
	in := func(entries []api.Entry) api.Id { return putTree(t, s, folder("in", putTree(t, s, entries...))) }
	m := mapOf(t, move("z", "q"), move("in/z", "r"), keep("a"), drop("a/000"))
	q, r := made(t, s, "q", "2"), made(t, s, "r/s/t", "2")
	for base, side := range map[api.Id]api.Id{
		putTree(t, s, almost...): q,
		in(almost):               r,
		putTree(t, s, append(almost, file("z", blob))...): q,
		in(append(almost, file("z", blob))):               r,
	} {
		id, err := project.Back(s, m, base, side)
		if err != api.OK {
			t.Errorf("Back into a tree that has room: %d", err)
		}
		want(t, "Back, and there again", side)(project.Of(s, m, id))
	}
	a := func(entries []api.Entry) api.Id { return putTree(t, s, folder("a", putTree(t, s, entries...))) }
	if _, err := project.Back(s, m, a(full[:1]), a(full[1:])); err != api.OK {
		t.Errorf("Back of 255 beside 1: %d", err)
	}
	more := append(full[1:256:256], file("x", blob))
	for base, side := range map[api.Id]api.Id{putTree(t, s, full...): q, in(full): r, a(full[:1]): a(more)} {
		before := s.Len()
		wantErr(t, "one more", api.ErrLong)(project.Back(s, m, base, side))
		wantSince(t, "one more", s, before)
	}
}

// P15.1, P15.2: cut at each raw write: ErrCut, and, mended, opened and done again, the same tree; what was there stays.
func TestCutEverywhere(t *testing.T) {
	m := mapOf(t, move("a", "x/y"), drop("a/b"))
	begin := func() (*store.Store, *disk.Disk, api.Id, api.Id) {
		s, d := open(t)
		return s, d, made(t, s, "a/b/c", "1", "a/d/e", "2", "a/d/f", "3", "g", "4"), made(t, s, "x/y/d/h", "5", "x/y/i", "6")
	}
	for what, call := range map[string]func(s *store.Store, base, side api.Id) (api.Id, api.Errno){
		"Of":      func(s *store.Store, base, side api.Id) (api.Id, api.Errno) { return project.Of(s, m, base) },
		"Outside": func(s *store.Store, base, side api.Id) (api.Id, api.Errno) { return project.Outside(s, m, base) },
		"Back":    func(s *store.Store, base, side api.Id) (api.Id, api.Errno) { return project.Back(s, m, base, side) },
	} {
		s, d, base, side := begin()
		before := d.Writes()
		asked, err := call(s, base, side)
		writes := d.Writes() - before
		if err != api.OK || writes == 0 {
			t.Fatalf("%s: %d, %d writes", what, err, writes)
		}
		for cut := range writes {
			s, d, base, side := begin()
			d.Cut(cut)
			wantErr(t, what+", cut", api.ErrCut)(call(s, base, side))
			d.Mend()
			s = openDisk(t, d)
			want(t, what+", done again", asked)(call(s, base, side))
			wantFiles(t, s, "what was there", "a/b/c", "1", "a/d/e", "2", "a/d/f", "3", "g", "4")(base, api.OK)
		}
	}
}

// P15.1, P15.2: store.Put's ErrLong, where the disk's file has no room left; what needs none is answered.
func TestFullDisk(t *testing.T) {
	s, _ := open(t)
	m := mapOf(t, move("a", "x/y"), drop("a/b"))
	base, side := made(t, s, "a/b/c", "1", "a/d/e", "2", "g", "4"), made(t, s, "x/y/i", "6")
	for k := range 2000 {
		b := make([]byte, api.MaxBlob)
		b[0], b[1] = byte(k), byte(k>>8)
		if _, err := s.Put(api.Blob{Bytes: b}); err == api.ErrLong {
			break
		}
	}
	for size := 4000; size > 0; size /= 2 {
		s.Put(api.Blob{Bytes: make([]byte, size)})
	}
	before := s.Len()
	wantErr(t, "Of", api.ErrLong)(project.Of(s, m, base))
	wantErr(t, "Outside", api.ErrLong)(project.Outside(s, m, base))
	wantErr(t, "Back", api.ErrLong)(project.Back(s, m, base, side))
	wantSince(t, "a full disk", s, before)
	want(t, "Of by Trivial", base)(project.Of(s, pathmap.Trivial(), base))
	wantSaid(t, "Inside", true)(project.Inside(s, m, side))
	wantSaid(t, "Alike", true)(project.Alike(s, m, base, base))
}
