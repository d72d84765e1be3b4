package tree_test

import (
	"slices"
	"strings"
	"testing"

	"espalier/api"
	"espalier/disk"
	"espalier/store"
	"espalier/tree"
)

// lay lays what has to go in.
func lay(t *testing.T, s *store.Store, id api.Id, path string, e api.Entry) api.Id {
	t.Helper()
	out, err := tree.Lay(s, id, path, e)
	if err != api.OK {
		t.Fatalf("Lay(%x, %q, %v): %d", id, path, e, err)
	}
	return out
}

// P9.3: at the root a folder takes the place of all, and nothing is put in; a file can't stand there.
func TestLayAtRoot(t *testing.T) {
	s, _ := open(t)
	id, other := grown(t, s, "a/b", "1"), grown(t, s, "c", "2")
	blob := idOf(blobOf("1"))
	before := s.Len()
	for _, e := range []api.Entry{{Folder: true, Id: other}, folder("x", other), folder("/", other)} {
		want(t, "Lay at the root", other)(tree.Lay(s, id, "", e))
	}
	want(t, "Lay at the root of what is not read", other)(tree.Lay(s, missing, "", folder("", other)))
	want(t, "Lay of the empty tree", emptyId())(tree.Lay(s, id, "", folder("", emptyId())))
	want(t, "Lay of the empty tree on it", emptyId())(tree.Lay(s, emptyId(), "", folder("", emptyId())))
	wantErr(t, "a tree that is not there", api.ErrNone)(tree.Lay(s, id, "", folder("", missing)))
	wantErr(t, "the id 0", api.ErrNone)(tree.Lay(s, id, "", folder("", 0)))
	wantErr(t, "a folder that is a blob", api.ErrKind)(tree.Lay(s, id, "", folder("", blob)))
	for _, e := range []api.Entry{{}, file("a", blob), file("a", missing), file("a", other)} {
		wantErr(t, "a file at the root", api.ErrArg)(tree.Lay(s, id, "", e))
		wantErr(t, "a file at the root of no tree", api.ErrArg)(tree.Lay(s, missing, "", e))
	}
	wantNew(t, "Lay at the root", s, before, 0)
}

// P9.3: what stood there is gone, folders on the way are made, and the entry's name is not looked at.
func TestLay(t *testing.T) {
	s, _ := open(t)
	id := grown(t, s, "a/b", "1", "a/c", "2", "d", "3")
	four := keepBlob(t, s, "4")
	some := keepTree(t, s, file("x", four))
	for _, name := range []string{"", "other", "/", "..", strings.Repeat("x", 99)} {
		wantFiles(t, s, lay(t, s, id, "d", file(name, four)), "a/b", "1", "a/c", "2", "d", "4")
		wantFiles(t, s, lay(t, s, id, "d", folder(name, some)), "a/b", "1", "a/c", "2", "d/x", "4")
	}
	wantFiles(t, s, lay(t, s, id, "a", file("", four)), "a", "4", "d", "3")
	wantFiles(t, s, lay(t, s, id, "a", folder("", some)), "a/x", "4", "d", "3")
	wantFiles(t, s, lay(t, s, id, "a/b", folder("", some)), "a/b/x", "4", "a/c", "2", "d", "3")
	wantFiles(t, s, lay(t, s, id, "a/b.", file("", four)), "a/b", "1", "a/b.", "4", "a/c", "2", "d", "3")
	wantFiles(t, s, lay(t, s, id, "0/1/2", file("", four)), "0/1/2", "4", "a/b", "1", "a/c", "2", "d", "3")
	wantFiles(t, s, lay(t, s, id, "a/e/f", folder("", some)), "a/b", "1", "a/c", "2", "a/e/f/x", "4", "d", "3")
	wantFind(t, s, lay(t, s, id, "z/y", folder("b", some)), "z/y", folder("y", some))
	want(t, "what stands there", id)(tree.Lay(s, id, "a/b", file("", idOf(blobOf("1")))))
	wantFiles(t, s, id, "a/b", "1", "a/c", "2", "d", "3")

	clash := []api.Entry{file("", four), folder("", some), file("", missing), file("", 0)}
	for _, e := range clash {
		for _, path := range []string{"d/x", "a/b/x", "a/b/x/y/z"} {
			wantErr(t, "Lay behind a file at "+path, api.ErrClash)(tree.Lay(s, id, path, e))
		}
	}
}

// P9.3: a folder without entries is taken out, and never laid.
func TestLayNothing(t *testing.T) {
	s, _ := open(t)
	id := grown(t, s, "a/b/c", "1", "a/d", "2", "e/f", "3")
	none := folder("e", emptyId())
	wantFiles(t, s, lay(t, s, id, "a/b", none), "a/d", "2", "e/f", "3")
	wantFiles(t, s, lay(t, s, id, "a/b/c", none), "a/d", "2", "e/f", "3")
	wantFiles(t, s, lay(t, s, id, "e/f", none), "a/b/c", "1", "a/d", "2")
	wantFiles(t, s, lay(t, s, id, "a", none), "e/f", "3")
	want(t, "the only file", emptyId())(tree.Lay(s, grown(t, s, "x/y/z", "1"), "x/y/z", none))
	for _, path := range []string{"z", "a/z", "a/z/y", "a/b/c/x", "e/f/g/h"} {
		want(t, "where nothing is: "+path, id)(tree.Lay(s, id, path, none))
	}
	full := keepTree(t, s, numbered(256, idOf(blobOf("1")))...)
	want(t, "into a full one", full)(tree.Lay(s, full, "z", none))
	want(t, "into the empty one", emptyId())(tree.Lay(s, emptyId(), "z/y", none))
}

// P9.3: which trees are read, in which order: that of the entry, then those along the path, and no blob.
func TestLayDamaged(t *testing.T) {
	s, _ := open(t)
	id := damaged(t, s)
	blob, empty := idOf(blobOf("1")), emptyId()
	some := keepTree(t, s, file("x", blob))
	before := s.Len()
	for _, e := range []api.Entry{file("", blob), file("", 0), folder("", some), folder("", empty)} {
		for wrong, asked := range map[api.Id]api.Errno{0: api.ErrNone, missing: api.ErrNone, blob: api.ErrKind} {
			for _, path := range []string{"a", "a/b"} {
				wantErr(t, "into a tree that is none", asked)(tree.Lay(s, wrong, path, e))
			}
		}
		for _, at := range []string{"", "ok/"} {
			wantErr(t, "gone", api.ErrNone)(tree.Lay(s, id, at+"gone/x", e))
			wantErr(t, "blob", api.ErrKind)(tree.Lay(s, id, at+"blob/x/y", e))
			wantErr(t, "commit", api.ErrKind)(tree.Lay(s, id, at+"commit/x", e))
		}
	}
	for _, into := range []api.Id{id, missing, blob} {
		for _, path := range []string{"a", "blob/x", "gone/x", "lost/x"} {
			wantErr(t, "a folder that is not there", api.ErrNone)(tree.Lay(s, into, path, folder("", missing)))
			wantErr(t, "a folder that is a blob", api.ErrKind)(tree.Lay(s, into, path, folder("", blob)))
		}
	}
	wantNew(t, "refused", s, before, 0)

	// What stands at the path itself is not read, nor is a blob.
	for _, name := range []string{"gone", "blob", "lost", "folder", "none", "new"} {
		wantFind(t, s, lay(t, s, id, "ok/"+name, file("", missing)), "ok/"+name, file(name, missing))
		wantFind(t, s, lay(t, s, id, name, file("", empty)), name, file(name, empty))
		wantFind(t, s, lay(t, s, id, name, folder("", some)), name, folder(name, some))
		if name != "new" {
			wantNoFind(t, s, lay(t, s, id, "ok/"+name, folder("", empty)), "ok/"+name, api.ErrNone)
		}
	}
	wantFile(t, s, lay(t, s, id, "none/x", file("", blob)), "none/x", "1")
	want(t, "nothing in a folder without entries", id)(tree.Lay(s, id, "none/x", folder("", empty)))
}

// P9.3: store.Put's error of an entry that no tree may have.
func TestLayNoId(t *testing.T) {
	s, _ := open(t)
	id := grown(t, s, "a/b", "1")
	before := s.Len()
	for _, path := range []string{"a", "a/b", "a/c", "b", "x/y/z"} {
		for _, name := range []string{"", "a"} {
			wantErr(t, "the id 0 at "+path, api.ErrArg)(tree.Lay(s, id, path, file(name, 0)))
		}
	}
	wantNew(t, "the id 0", s, before, 0)
}

// P9.3, P9.4: MaxEntries entries, and one more: ahead of anything that is put in, and of what that would answer.
func TestChangeFull(t *testing.T) {
	s, d := open(t)
	blob := keepBlob(t, s, "1")
	some := keepTree(t, s, file("x", blob))
	full := keepTree(t, s, numbered(256, blob)...)
	outer := keepTree(t, s, folder("in", full))
	almost := keepTree(t, s, numbered(255, blob)...)
	wantFile(t, s, lay(t, s, almost, "z", file("", blob)), "z", "1")
	wantFile(t, s, put(t, s, almost, "a/b/c", "2"), "a/b/c", "2")
	wantFile(t, s, put(t, s, full, "007", "2"), "007", "2")
	wantFile(t, s, lay(t, s, full, "007", folder("", some)), "007/x", "1")
	wantFile(t, s, put(t, s, outer, "in/007", "2"), "in/007", "2")
	before := s.Len()
	for range 2 {
		for id, at := range map[api.Id]string{full: "", outer: "in/"} {
			for _, path := range []string{"z", "z/y/x", "0"} {
				for _, e := range []api.Entry{file("", blob), file("", 0), folder("", some)} {
					wantErr(t, "Lay of one more", api.ErrLong)(tree.Lay(s, id, at+path, e))
				}
				wantErr(t, "Put of one more", api.ErrLong)(tree.Put(s, id, at+path, []byte("new")))
			}
			wantErr(t, "Lay behind a file", api.ErrClash)(tree.Lay(s, id, at+"007/x", file("", blob)))
			wantErr(t, "Put behind a file", api.ErrClash)(tree.Put(s, id, at+"007/x", nil))
		}
		d.Cut(0) // what would be put in has no say
	}
	wantNew(t, "one more", s, before, 0)
}

// P9.3: the paths within what is laid may be too long.
func TestLayTooDeep(t *testing.T) {
	s, _ := open(t)
	deep := nested(t, s, keepTree(t, s, file("a", keepBlob(t, s, "1"))), "a", 15)
	id := lay(t, s, grown(t, s), strings.Repeat("b/", 15)+"b", folder("", deep))
	wantSound(t, s, id, api.ErrLong)
	wantSize(t, s, id, 32, 63, 1)
}

// P9.3: new trees are put in from below; P9.9: no more than the path has names; blobs ahead of them.
func TestPutInFromBelow(t *testing.T) {
	s, d := open(t)
	blob := keepBlob(t, s, "1")
	id := grown(t, s)
	before := s.Len()
	top := lay(t, s, id, "a/b/c", file("", blob))
	c := api.Tree{Entries: []api.Entry{file("c", blob)}}
	b := api.Tree{Entries: []api.Entry{folder("b", idOf(c))}}
	wantSince(t, s, before, idOf(c), idOf(b), top)
	before = s.Len()
	top = put(t, s, top, "a/b/d", "2")
	two := idOf(blobOf("2"))
	d2 := api.Tree{Entries: []api.Entry{file("c", blob), file("d", two)}}
	b2 := api.Tree{Entries: []api.Entry{folder("b", idOf(d2))}}
	wantSince(t, s, before, two, idOf(d2), idOf(b2), top)
	before = s.Len()
	writes := d.Writes()
	want(t, "once more", top)(tree.Put(s, top, "a/b/d", []byte("2")))
	want(t, "once more", top)(tree.Lay(s, top, "a/b", folder("", idOf(d2))))
	wantSince(t, s, before)
	if d.Writes() != writes {
		t.Error("what is there was written again")
	}
	// No folder without entries is put in on the way; the empty tree is, when nothing is left.
	s, _ = open(t)
	blob = keepBlob(t, s, "1")
	id = keepTree(t, s, folder("a", keepTree(t, s, folder("b", keepTree(t, s, file("c", blob))))), file("z", blob))
	before = s.Len()
	left, _ := tree.Remove(s, id, "a/b/c")
	wantSince(t, s, before, idOf(api.Tree{Entries: []api.Entry{file("z", blob)}}))
	want(t, "the last one", emptyId())(tree.Remove(s, left, "z"))
	wantSince(t, s, before, left, emptyId())
}

func wantSince(t *testing.T, s *store.Store, n int, asked ...api.Id) {
	t.Helper()
	if ids := slices.Collect(s.Since(n)); !slices.Equal(ids, asked) {
		t.Errorf("put in: %x, not %x", ids, asked)
	}
}

// P9.4: files that are new, and that are written again.
func TestPut(t *testing.T) {
	s, _ := open(t)
	id := grown(t, s, "a/b", "1", "c", "2")
	wantFiles(t, s, put(t, s, id, "a/b", "3"), "a/b", "3", "c", "2")
	wantFiles(t, s, put(t, s, id, "a/a/a", ""), "a/a/a", "", "a/b", "1", "c", "2")
	wantFiles(t, s, put(t, s, id, "d", "4"), "a/b", "1", "c", "2", "d", "4")
	want(t, "a file as it is", id)(tree.Put(s, id, "c", []byte("2")))
	most := strings.Repeat("x", api.MaxBlob)
	wantFile(t, s, put(t, s, id, "c", most), "c", most)
	before := s.Len()
	wantErr(t, "a long blob", api.ErrLong)(tree.Put(s, id, "c", []byte(most+"x")))
	for _, path := range []string{"a", "c/x", "a/b/x/y"} {
		wantErr(t, "Put at "+path, api.ErrClash)(tree.Put(s, id, path, []byte("new")))
		wantErr(t, "Put of a long blob at "+path, api.ErrClash)(tree.Put(s, id, path, []byte(most+"x")))
	}
	for _, id := range []api.Id{id, missing, 0} {
		wantErr(t, "Put at the root", api.ErrArg)(tree.Put(s, id, "", []byte("new")))
	}
	wantNew(t, "refused", s, before, 0)
}

// P9.4: which trees are read; nothing is put in where they are refused.
func TestPutDamaged(t *testing.T) {
	s, _ := open(t)
	id := damaged(t, s)
	before := s.Len()
	for wrong, asked := range map[api.Id]api.Errno{0: api.ErrNone, missing: api.ErrNone, idOf(blobOf("1")): api.ErrKind} {
		wantErr(t, "into a tree that is none", asked)(tree.Put(s, wrong, "a", []byte("new")))
		wantErr(t, "out of a tree that is none", asked)(tree.Remove(s, wrong, "a"))
		wantErr(t, "out of a tree that is none", asked)(tree.Remove(s, wrong, ""))
	}
	for _, at := range []string{"", "ok/"} {
		for path, asked := range map[string]api.Errno{"gone/x": api.ErrNone, "blob/x": api.ErrKind, "commit/x/y": api.ErrKind, "gone": api.ErrClash, "blob": api.ErrClash, "none": api.ErrClash, "lost/x": api.ErrClash, "folder/x": api.ErrClash} {
			wantErr(t, "Put at "+at+path, asked)(tree.Put(s, id, at+path, []byte("new")))
		}
		for path, asked := range map[string]api.Errno{"gone/x": api.ErrNone, "blob/x": api.ErrKind, "none/x": api.ErrNone, "lost/x": api.ErrNone, "folder/x": api.ErrNone, "new": api.ErrNone} {
			wantErr(t, "Remove of "+at+path, asked)(tree.Remove(s, id, at+path))
		}
	}
	wantNew(t, "refused", s, before, 0)
	for _, name := range []string{"gone", "blob", "none", "lost"} {
		for _, at := range []string{"", "ok/"} {
			left, err := tree.Remove(s, id, at+name)
			if err != api.OK {
				t.Errorf("Remove of %s: %d", at+name, err)
			}
			wantNoFind(t, s, left, at+name, api.ErrNone)
			wantFind(t, s, left, at+"made", file("made", idOf(api.Commit{Tree: emptyId()})))
		}
	}
	wantFile(t, s, put(t, s, id, "lost", "found"), "lost", "found")
	wantFile(t, s, put(t, s, id, "ok/folder", "found"), "ok/folder", "found")
	wantFile(t, s, put(t, s, id, "none/x", "found"), "none/x", "found")
}

// P9.4: what stood there is gone, and folders that have no entry left with it.
func TestRemove(t *testing.T) {
	s, _ := open(t)
	id := grown(t, s, "a/b/c", "1", "a/b/d", "2", "a/e/f/g", "3", "h", "4")
	for path, asked := range map[string][]string{
		"a/b/c":   {"a/b/d", "2", "a/e/f/g", "3", "h", "4"},
		"a/b":     {"a/e/f/g", "3", "h", "4"},
		"a/e/f/g": {"a/b/c", "1", "a/b/d", "2", "h", "4"},
		"a/e/f":   {"a/b/c", "1", "a/b/d", "2", "h", "4"},
		"a":       {"h", "4"},
		"h":       {"a/b/c", "1", "a/b/d", "2", "a/e/f/g", "3"},
		"":        {},
	} {
		left, err := tree.Remove(s, id, path)
		if err != api.OK {
			t.Errorf("Remove of %q: %d", path, err)
		}
		wantFiles(t, s, left, asked...)
		wantSound(t, s, left, api.OK)
	}
	for _, path := range []string{"b", "a/b/cc", "a/b/c/d", "h/x", "x/y/z"} {
		wantErr(t, "Remove of "+path, api.ErrNone)(tree.Remove(s, id, path))
	}
	want(t, "a folder whose only file goes", emptyId())(tree.Remove(s, grown(t, s, "x/y/z", "1"), "x/y/z"))
	for _, path := range []string{"", "a"} {
		wantErr(t, "Remove of the empty tree", api.ErrNone)(tree.Remove(s, emptyId(), path))
	}
	wantFiles(t, s, id, "a/b/c", "1", "a/b/d", "2", "a/e/f/g", "3", "h", "4")
}

// P9.4: of the root the empty tree is put in, if there are entries, whatever they are.
func TestRemoveRoot(t *testing.T) {
	s, d := open(t)
	id := keepTree(t, s, folder("a", missing))
	d.Cut(0)
	wantErr(t, "Remove on a cut disk", api.ErrCut)(tree.Remove(s, id, ""))
	d.Mend()
	s = openDisk(t, d)
	want(t, "Remove of the root", emptyId())(tree.Remove(s, id, ""))
	if !s.Has(emptyId()) {
		t.Error("the empty tree is not there")
	}
}

// P9.3 to P9.5: store.Put's error of an id that has other bytes.
func TestCollisions(t *testing.T) {
	s, _ := open(t)
	one := keepBlob(t, s, "1")
	id := grown(t, s)
	x, ab := keepBlob(t, s, blobLikeX), keepBlob(t, s, blobLikeAB)
	if x != idOf(api.Tree{Entries: []api.Entry{file("x", one)}}) {
		t.Fatal("these do not collide")
	}
	wantErr(t, "Put", api.ErrCollision)(tree.Put(s, id, "x", []byte("1")))
	wantErr(t, "Put in a folder", api.ErrCollision)(tree.Put(s, id, "y/x", []byte("1")))
	wantErr(t, "Lay", api.ErrCollision)(tree.Lay(s, id, "x", file("", one)))
	wantErr(t, "Of", api.ErrCollision)(tree.Of(s, []api.File{{Path: "x", Blob: one}}))
	more := put(t, s, id, "x", "2")
	more = put(t, s, more, "y", "3")
	more, _ = tree.Lay(s, more, "x", file("", one))
	wantErr(t, "Remove", api.ErrCollision)(tree.Remove(s, more, "y"))
	wantNoFind(t, s, x, "", api.ErrKind)

	// Here the folder goes in, and its root does not.
	before := s.Len()
	wantErr(t, "Put at a/b", api.ErrCollision)(tree.Put(s, id, "a/b", []byte("1")))
	wantSince(t, s, before, idOf(api.Tree{Entries: []api.Entry{file("b", one)}}))
	wantErr(t, "Of a/b", api.ErrCollision)(tree.Of(s, []api.File{{Path: "a/b", Blob: one}}))
	wantNoFind(t, s, ab, "", api.ErrKind)

	// The tree has the id of the blob 31, so that the blob can't go in.
	s, _ = open(t)
	id = keepTree(t, s, file("0", 3), file("z", 0x8dfd9811b61e27d2))
	if id != one {
		t.Fatal("these do not collide")
	}
	wantErr(t, "Put of the blob", api.ErrCollision)(tree.Put(s, id, "a", []byte("1")))
	wantNew(t, "Put of the blob", s, 0, 1)
}

// P9.3 to P9.5: cut at each raw write: ErrCut, and, mended, opened and done again, the same tree; what was there stays.
func TestCutEverywhere(t *testing.T) {
	begin := func() (*store.Store, *disk.Disk, api.Id) {
		s, d := open(t)
		keepBlob(t, s, "new")
		return s, d, grown(t, s, "a/b/c", "1", "a/d", strings.Repeat("2", 99), "e", "3")
	}
	for what, call := range map[string]func(s *store.Store, id api.Id) (api.Id, api.Errno){
		"Put":    func(s *store.Store, id api.Id) (api.Id, api.Errno) { return tree.Put(s, id, "a/b/x", make([]byte, 99)) },
		"Lay":    func(s *store.Store, id api.Id) (api.Id, api.Errno) { return tree.Lay(s, id, "x/y/z", file("", 9)) },
		"Remove": func(s *store.Store, id api.Id) (api.Id, api.Errno) { return tree.Remove(s, id, "a/d") },
		"nothing": func(s *store.Store, id api.Id) (api.Id, api.Errno) {
			return tree.Lay(s, id, "a/b", folder("", emptyId()))
		},
		"Of": func(s *store.Store, id api.Id) (api.Id, api.Errno) {
			return tree.Of(s, []api.File{{Path: "x/y", Blob: idOf(blobOf("new"))}, {Path: "x/z", Blob: idOf(blobOf("1"))}})
		},
	} {
		s, d, id := begin()
		before := d.Writes()
		asked, err := call(s, id)
		if err != api.OK {
			t.Fatalf("%s: %d", what, err)
		}
		writes := d.Writes() - before
		if writes == 0 {
			t.Fatalf("%s writes nothing", what)
		}
		for cut := range writes {
			s, d, id := begin()
			d.Cut(cut)
			wantErr(t, what+", cut", api.ErrCut)(call(s, id))
			d.Mend()
			s = openDisk(t, d)
			wantFiles(t, s, id, "a/b/c", "1", "a/d", strings.Repeat("2", 99), "e", "3")
			want(t, what+", done again", asked)(call(s, id))
		}
	}
}
