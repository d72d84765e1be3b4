package tree_test

import (
	"bytes"
	"slices"
	"strings"
	"testing"

	"espalier/api"
	"espalier/disk"
	"espalier/object"
	"espalier/store"
	"espalier/tree"
)

func open(t *testing.T) (*store.Store, *disk.Disk) {
	t.Helper()
	d := disk.New()
	return openDisk(t, d), d
}

func openDisk(t *testing.T, d *disk.Disk) *store.Store {
	t.Helper()
	s, err := store.Open(d)
	if err != api.OK {
		t.Fatalf("Open: %d", err)
	}
	return s
}

// keep puts in an object that has to go in.
func keep(t *testing.T, s *store.Store, o api.Object) api.Id {
	t.Helper()
	id, err := s.Put(o)
	if err != api.OK {
		t.Fatalf("Put(%#v): %d", o, err)
	}
	return id
}

func keepBlob(t *testing.T, s *store.Store, text string) api.Id {
	t.Helper()
	return keep(t, s, blobOf(text))
}

func keepTree(t *testing.T, s *store.Store, entries ...api.Entry) api.Id {
	t.Helper()
	return keep(t, s, api.Tree{Entries: entries})
}

func blobOf(text string) api.Blob { return api.Blob{Bytes: []byte(text)} }

func file(name string, id api.Id) api.Entry   { return api.Entry{Name: name, Id: id} }
func folder(name string, id api.Id) api.Entry { return api.Entry{Name: name, Folder: true, Id: id} }

// idOf is the id of an object that may be.
func idOf(o api.Object) api.Id {
	id, err := object.Of(o)
	if err != api.OK {
		panic("an object that may not be")
	}
	return id
}

func emptyId() api.Id { return idOf(api.Tree{}) }

// missing is an id that no store of these tests has.
const missing api.Id = 7

// numbered is that many files of one blob.
func numbered(n int, id api.Id) []api.Entry {
	var entries []api.Entry
	for k := range n {
		entries = append(entries, file(string([]byte{'0' + byte(k/100), '0' + byte(k/10%10), '0' + byte(k%10)}), id))
	}
	return entries
}

// selfTree puts in a tree that stands in itself, behind a file and ahead of another one, which no store has: its id is 2.
func selfTree(t *testing.T, s *store.Store) api.Id {
	t.Helper()
	id := keepTree(t, s, file("0", keepBlob(t, s, "1")), folder("a", 2), file("b", 0xa7c0d8ee820c7e04))
	if id != 2 {
		t.Fatalf("the tree has the id %x", id)
	}
	return id
}

// twoTrees puts in a tree that stands in one that stands in it.
func twoTrees(t *testing.T, s *store.Store) api.Id {
	t.Helper()
	inner := keepTree(t, s, folder("a", 5))
	id := keepTree(t, s, folder("a", inner), file("b", 0x2f0acb43d583d352))
	if id != 5 {
		t.Fatalf("the tree has the id %x", id)
	}
	return id
}

// Blobs that have the ids of trees.
const (
	blobLikeEmpty = "\x00\x46\x28\x0a\x3f\xc3\x7b\x34\x57" // of the empty one
	blobLikeX     = "\x00\xf4\xad\x2f\xde\x88\xee\x97\x7b" // of x, the blob of 31
	blobLikeAB    = "\x00\xe9\x63\x45\x58\x69\xbe\x43\x9f" // of a/b, the blob of 31
)

// want wants a call to answer an id.
func want(t *testing.T, what string, asked api.Id) func(id api.Id, err api.Errno) {
	t.Helper()
	return func(id api.Id, err api.Errno) {
		t.Helper()
		if id != asked || err != api.OK {
			t.Errorf("%s: %x %d, not %x", what, id, err, asked)
		}
	}
}

// wantErr wants a call to answer an error, and no id.
func wantErr(t *testing.T, what string, asked api.Errno) func(id api.Id, err api.Errno) {
	t.Helper()
	return func(id api.Id, err api.Errno) {
		t.Helper()
		if id != 0 || err != asked {
			t.Errorf("%s: %x %d, not error %d", what, id, err, asked)
		}
	}
}

func wantFind(t *testing.T, s *store.Store, id api.Id, path string, asked api.Entry) {
	t.Helper()
	if e, err := tree.Find(s, id, path); err != api.OK || e != asked {
		t.Errorf("Find(%x, %q): %v %d, not %v", id, path, e, err, asked)
	}
}

func wantNoFind(t *testing.T, s *store.Store, id api.Id, path string, asked api.Errno) {
	t.Helper()
	if e, err := tree.Find(s, id, path); err != asked || e != (api.Entry{}) {
		t.Errorf("Find(%x, %q): %v %d, not error %d", id, path, e, err, asked)
	}
}

func wantFile(t *testing.T, s *store.Store, id api.Id, path, asked string) {
	t.Helper()
	if b, err := tree.File(s, id, path); err != api.OK || string(b) != asked {
		t.Errorf("File(%x, %q): %q %d, not %q", id, path, b, err, asked)
	}
}

func wantNoFile(t *testing.T, s *store.Store, id api.Id, path string, asked api.Errno) {
	t.Helper()
	if b, err := tree.File(s, id, path); err != asked || b != nil {
		t.Errorf("File(%x, %q): %q %d, not error %d", id, path, b, err, asked)
	}
}

// wantFiles wants just these files, path and text by turns, by Files and by Walk.
func wantFiles(t *testing.T, s *store.Store, id api.Id, asked ...string) {
	t.Helper()
	var list []api.File
	for k := 0; k < len(asked); k += 2 {
		list = append(list, api.File{Path: asked[k], Blob: idOf(blobOf(asked[k+1]))})
	}
	if got, err := tree.Files(s, id, len(list)); err != api.OK || !slices.Equal(got, list) {
		t.Errorf("Files(%x): %v %d, not %v", id, got, err, list)
	}
	if got := walked(s, id); !slices.Equal(got, list) {
		t.Errorf("Walk(%x): %v, not %v", id, got, list)
	}
}

func walked(s *store.Store, id api.Id) []api.File {
	var list []api.File
	for path, blob := range tree.Walk(s, id) {
		list = append(list, api.File{Path: path, Blob: blob})
	}
	return list
}

// wantNew wants that many objects more than there were.
func wantNew(t *testing.T, what string, s *store.Store, before, asked int) {
	t.Helper()
	if more := s.Len() - before; more != asked {
		t.Errorf("%s: %d objects more, not %d", what, more, asked)
	}
}

// put puts a file into a tree.
func put(t *testing.T, s *store.Store, id api.Id, path, text string) api.Id {
	t.Helper()
	out, err := tree.Put(s, id, path, []byte(text))
	if err != api.OK {
		t.Fatalf("Put(%x, %q): %d", id, path, err)
	}
	return out
}

// grown is a tree of files, path and text by turns.
func grown(t *testing.T, s *store.Store, files ...string) api.Id {
	t.Helper()
	id, err := tree.Empty(s)
	if err != api.OK {
		t.Fatal(err)
	}
	for k := 0; k < len(files); k += 2 {
		id = put(t, s, id, files[k], files[k+1])
	}
	return id
}

// wrongPaths are no paths.
func wrongPaths() []string {
	return []string{"/", "a/", "/a", "a//b", ".", "a/..", "a\x00", "a\xff", strings.Repeat("a", 33), strings.Repeat("a/", 16) + "a", strings.Repeat("a", 201)}
}

// The chapter's rows.
func TestExamples(t *testing.T) {
	s, _ := open(t)
	e, err := tree.Empty(s)
	want(t, "Empty", idOf(api.Tree{}))(e, err)
	one := put(t, s, e, "a/b", "1")
	two := put(t, s, one, "a/c", "2")
	wantFiles(t, s, two, "a/b", "1", "a/c", "2")
	a := folder("a", idOf(api.Tree{Entries: []api.Entry{file("b", idOf(blobOf("1"))), file("c", idOf(blobOf("2")))}}))
	wantFind(t, s, two, "a", a)
	wantNoFind(t, s, two, "a/b/x", api.ErrNone)
	wantFind(t, s, two, "", api.Entry{Folder: true, Id: two})
	for path, asked := range map[string]api.Errno{"a": api.ErrClash, "a/b/c": api.ErrClash, "": api.ErrArg, "/": api.ErrArg} {
		wantErr(t, "Put at "+path, asked)(tree.Put(s, two, path, []byte("3")))
	}
	want(t, "Remove a/c", one)(tree.Remove(s, two, "a/c"))
	want(t, "Remove a/b", e)(tree.Remove(s, one, "a/b"))
	wantErr(t, "Remove b", api.ErrNone)(tree.Remove(s, one, "b"))
	laid, err := tree.Lay(s, two, "x/y", a)
	if err != api.OK {
		t.Errorf("Lay: %d", err)
	}
	wantFiles(t, s, laid, "a/b", "1", "a/c", "2", "x/y/b", "1", "x/y/c", "2")
	want(t, "Lay of none at a", e)(tree.Lay(s, two, "a", folder("", e)))
	want(t, "Lay of none at z", two)(tree.Lay(s, two, "z", folder("", e)))
	wantSize(t, s, two, 2, 3, 2)
	b := idOf(blobOf("1"))
	wantErr(t, "Of a/b twice", api.ErrThere)(tree.Of(s, []api.File{{Path: "a/b", Blob: b}, {Path: "a/b", Blob: b}}))
	wantErr(t, "Of a and a/b", api.ErrClash)(tree.Of(s, []api.File{{Path: "a", Blob: b}, {Path: "a/b", Blob: b}}))
}

// P9.1: put in once; store.Put's errors.
func TestEmpty(t *testing.T) {
	s, d := open(t)
	for range 2 {
		want(t, "Empty", emptyId())(tree.Empty(s))
		if got, err := s.Tree(emptyId()); err != api.OK || len(got.Entries) != 0 {
			t.Errorf("the empty tree: %v %d", got, err)
		}
		wantNew(t, "Empty", s, 0, 1)
	}
	d.Cut(0)
	want(t, "Empty of a cut disk that has it", emptyId())(tree.Empty(s))

	s, d = open(t)
	d.Cut(0)
	wantErr(t, "Empty of a cut disk", api.ErrCut)(tree.Empty(s))

	s, _ = open(t)
	if keepBlob(t, s, blobLikeEmpty) != emptyId() {
		t.Fatal("this blob does not collide")
	}
	wantErr(t, "Empty, its id taken", api.ErrCollision)(tree.Empty(s))
}

// R4: of a nil store all calls answer ErrNil, whatever else is wrong, and nothing is told.
func TestNil(t *testing.T) {
	wantErr(t, "Empty", api.ErrNil)(tree.Empty(nil))
	for _, path := range []string{"", "a", "/"} {
		wantNoFind(t, nil, 1, path, api.ErrNil)
		wantNoFile(t, nil, 1, path, api.ErrNil)
		wantErr(t, "Lay", api.ErrNil)(tree.Lay(nil, 1, path, file("a", 1)))
		wantErr(t, "Lay", api.ErrNil)(tree.Lay(nil, 1, path, folder("a", 1)))
		wantErr(t, "Put", api.ErrNil)(tree.Put(nil, 1, path, make([]byte, 5000)))
		wantErr(t, "Remove", api.ErrNil)(tree.Remove(nil, 1, path))
		wantErr(t, "Of", api.ErrNil)(tree.Of(nil, []api.File{{Path: path}, {Path: path}}))
	}
	wantErr(t, "Of", api.ErrNil)(tree.Of(nil, nil))
	for _, most := range []int{-1, 0, 1} {
		wantNoFiles(t, nil, 1, most, api.ErrNil)
	}
	if got := walked(nil, 1); got != nil {
		t.Errorf("Walk told %v", got)
	}
	wantNoSize(t, nil, 1, api.ErrNil)
	wantSound(t, nil, 1, api.ErrNil)
}

// All calls of a path: ErrArg of one that may not be, ahead of a tree that is not there.
func TestWrongPaths(t *testing.T) {
	s, d := open(t)
	id := grown(t, s, "a/b", "1")
	before, writes := s.Len(), d.Writes()
	for _, path := range wrongPaths() {
		for _, id := range []api.Id{id, missing} {
			wantNoFind(t, s, id, path, api.ErrArg)
			wantNoFile(t, s, id, path, api.ErrArg)
			wantErr(t, "Lay", api.ErrArg)(tree.Lay(s, id, path, file("a", 1)))
			wantErr(t, "Lay", api.ErrArg)(tree.Lay(s, id, path, folder("a", missing)))
			wantErr(t, "Put", api.ErrArg)(tree.Put(s, id, path, make([]byte, 5000)))
			wantErr(t, "Remove", api.ErrArg)(tree.Remove(s, id, path))
		}
	}
	wantNew(t, "wrong paths", s, before, 0)
	if d.Writes() != writes {
		t.Error("something was written")
	}
}

// P9.2: each path of a tree, and some that it has not.
func TestFind(t *testing.T) {
	s, _ := open(t)
	id := grown(t, s, "a/b/c", "1", "a/b/d", "", "a/e", "2", "a.b", "3", "é", "4")
	b, _ := tree.Of(s, []api.File{{Path: "c", Blob: idOf(blobOf("1"))}, {Path: "d", Blob: idOf(blobOf(""))}})
	wantFind(t, s, id, "a/b", folder("b", b))
	for path, text := range map[string]string{"a/b/c": "1", "a/b/d": "", "a/e": "2", "a.b": "3", "é": "4"} {
		names := strings.Split(path, "/")
		wantFind(t, s, id, path, file(names[len(names)-1], idOf(blobOf(text))))
		wantFile(t, s, id, path, text)
		wantNoFind(t, s, id, path+"/x", api.ErrNone)
		wantNoFile(t, s, id, path+"/x", api.ErrNone)
	}
	for _, path := range []string{"b", "A", "a/c", "a/b/c/d/e", "a/bb", "a b", "a/b/", "e"} {
		asked := api.ErrNone
		if path == "a/b/" {
			asked = api.ErrArg
		}
		wantNoFind(t, s, id, path, asked)
		wantNoFile(t, s, id, path, asked)
	}
	for _, path := range []string{"", "a", "a/b"} {
		wantNoFile(t, s, id, path, api.ErrClash)
	}
	wantFind(t, s, emptyId(), "", api.Entry{Folder: true, Id: emptyId()})
	wantNoFind(t, s, emptyId(), "a", api.ErrNone)
	wantNoFile(t, s, emptyId(), "", api.ErrClash)
}

// P9.2: the longest paths that may be.
func TestFindDeep(t *testing.T) {
	s, _ := open(t)
	deep := strings.Repeat("a/", 15) + "a"
	wide := strings.Repeat(strings.Repeat("b", 32)+"/", 6) + "bb"
	if len(wide) != 200 {
		t.Fatal(len(wide))
	}
	id := grown(t, s, deep, "1", wide, "2")
	wantFile(t, s, id, deep, "1")
	wantFile(t, s, id, wide, "2")
	wantFind(t, s, id, deep, file("a", idOf(blobOf("1"))))
	wantNoFind(t, s, id, deep+"/a", api.ErrArg)
	wantNoFind(t, s, id, wide+"b", api.ErrArg)
}

// damaged is a tree whose entries lead to what is not there, or is of another kind, at the root and in the folder ok.
func damaged(t *testing.T, s *store.Store) api.Id {
	t.Helper()
	blob, empty := keepBlob(t, s, "1"), keepTree(t, s)
	commit := keep(t, s, api.Commit{Tree: empty})
	entries := []api.Entry{
		folder("blob", blob), folder("commit", commit), file("folder", empty), folder("gone", missing), file("lost", missing), file("made", commit), folder("none", empty),
	}
	within := keepTree(t, s, entries...)
	return keepTree(t, s, append(entries, folder("ok", within))...)
}

// P9.2: which trees and blobs are read, and what they are found to be.
func TestFindDamaged(t *testing.T) {
	s, _ := open(t)
	id := damaged(t, s)
	blob, empty := idOf(blobOf("1")), emptyId()
	commit := idOf(api.Commit{Tree: empty})
	for _, at := range []string{"", "ok/"} {
		// What stands at the path itself is not read.
		wantFind(t, s, id, at+"gone", folder("gone", missing))
		wantFind(t, s, id, at+"blob", folder("blob", blob))
		wantFind(t, s, id, at+"commit", folder("commit", commit))
		wantFind(t, s, id, at+"lost", file("lost", missing))
		wantFind(t, s, id, at+"folder", file("folder", empty))
		wantNoFind(t, s, id, at+"gone/x", api.ErrNone)
		wantNoFind(t, s, id, at+"blob/x", api.ErrKind)
		wantNoFind(t, s, id, at+"commit/x/y", api.ErrKind)
		wantNoFind(t, s, id, at+"folder/x", api.ErrNone)
		wantNoFind(t, s, id, at+"none/x", api.ErrNone)
		wantNoFile(t, s, id, at+"gone", api.ErrClash)
		wantNoFile(t, s, id, at+"blob/x", api.ErrKind)
		wantNoFile(t, s, id, at+"lost", api.ErrNone)
		wantNoFile(t, s, id, at+"folder", api.ErrKind)
		wantNoFile(t, s, id, at+"made", api.ErrKind)
	}
	for wrong, asked := range map[api.Id]api.Errno{0: api.ErrNone, missing: api.ErrNone, blob: api.ErrKind, commit: api.ErrKind} {
		for _, path := range []string{"", "a", "a/b"} {
			wantNoFind(t, s, wrong, path, asked)
			wantNoFile(t, s, wrong, path, asked)
		}
	}
}

// R3: what File answers is nobody else's memory.
func TestFileSharesNothing(t *testing.T) {
	s, _ := open(t)
	text := []byte("text")
	id, _ := tree.Put(s, grown(t, s), "a", text)
	copy(text, "xxxx")
	for range 2 {
		b, _ := tree.File(s, id, "a")
		if !bytes.Equal(b, []byte("text")) {
			t.Errorf("File: %q", b)
		}
		copy(b[:cap(b)], "yyyyyyyy")
	}
}
