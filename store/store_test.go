package store_test

import (
	"bytes"
	"hash/fnv"
	"math"
	"reflect"
	"slices"
	"testing"

	"espalier/api"
	"espalier/disk"
	"espalier/object"
	"espalier/store"
)

// The objects of the chapter's examples.
func exampleBlob() api.Blob { return blobOf("a") }
func exampleTree() api.Tree {
	return api.Tree{Entries: []api.Entry{{Name: "x", Id: idOf(exampleBlob())}}}
}

func exampleCommit() api.Commit {
	return api.Commit{Tree: idOf(exampleTree()), Parents: []api.Id{1, 258}, Author: "é", Date: -1, Text: "why"}
}

func blobOf(text string) api.Blob { return api.Blob{Bytes: []byte(text)} }

// zeroBlob is a blob whose bytes have the hash 0, so that its id is 1.
func zeroBlob() api.Blob { return blobOf("\x06\xfa\x8c\x3c\x5c\x76\xf3\xf2\xde") }

// colliding is two blobs of unlike bytes with one id, whatever stands behind both.
func colliding(behind string) (api.Blob, api.Blob) {
	return blobOf("\x56\xc7\x6a\xa2\x8d\x57\x56\xc8\x00" + behind), blobOf("\x6f\x72\xa8\xff\xf2\x7c\xe6\x23\x94" + behind)
}

// bytesOf is the bytes of an object that may be.
func bytesOf(o api.Object) []byte {
	b, err := object.Encode(o)
	if err != api.OK {
		panic("an object that may not be")
	}
	return b
}

// idOf is an object's id by another reckoning.
func idOf(o api.Object) api.Id {
	hash := fnv.New64a()
	hash.Write(bytesOf(o))
	return api.Id(max(hash.Sum64(), 1))
}

func idsOf(list ...api.Object) []api.Id {
	var ids []api.Id
	for _, o := range list {
		ids = append(ids, idOf(o))
	}
	return ids
}

func open(t *testing.T, d *disk.Disk) *store.Store {
	t.Helper()
	s, err := store.Open(d)
	if err != api.OK || s == nil {
		t.Fatalf("Open: %v %d", s, err)
	}
	return s
}

// wantOpen wants Open to answer an error, and nothing beside it.
func wantOpen(t *testing.T, what string, d *disk.Disk, asked api.Errno) {
	t.Helper()
	if s, err := store.Open(d); err != asked || s != nil {
		t.Errorf("Open of %s: %v %d, not %d", what, s, err, asked)
	}
}

// put puts in what has to go in.
func put(t *testing.T, s *store.Store, list ...api.Object) {
	t.Helper()
	for _, o := range list {
		if id, err := s.Put(o); err != api.OK || id != idOf(o) {
			t.Fatalf("Put(%#v): %x %d, not %x", o, id, err, idOf(o))
		}
	}
}

// wantPut wants Put to answer an error, and no id.
func wantPut(t *testing.T, what string, s *store.Store, o api.Object, asked api.Errno) {
	t.Helper()
	if id, err := s.Put(o); err != asked || id != 0 {
		t.Errorf("Put of %s: %x %d, not %d", what, id, err, asked)
	}
}

func wantWrites(t *testing.T, d *disk.Disk, asked int) {
	t.Helper()
	if writes := d.Writes(); writes != asked {
		t.Errorf("%d raw writes, not %d", writes, asked)
	}
}

func told(s *store.Store, n int) []api.Id {
	var ids []api.Id
	for id := range s.Since(n) {
		ids = append(ids, id)
	}
	return ids
}

// wantSince wants the ids from some place on.
func wantSince(t *testing.T, s *store.Store, n int, asked ...api.Id) {
	t.Helper()
	if ids := told(s, n); !slices.Equal(ids, asked) {
		t.Errorf("Since(%d): %x, not %x", n, ids, asked)
	}
}

// wantObjects wants a store to have just these objects, in this order, by all of its calls.
func wantObjects(t *testing.T, s *store.Store, list ...api.Object) {
	t.Helper()
	ids := idsOf(list...)
	if s.Len() != len(list) {
		t.Errorf("%d objects, not %d", s.Len(), len(list))
	}
	wantSince(t, s, 0, ids...)
	wantSince(t, s, len(list)/2, ids[len(list)/2:]...)
	for k, o := range list {
		wantObject(t, s, ids[k], o)
	}
}

// wantObject wants an object by its id, by the calls for its kind and by those for the others.
func wantObject(t *testing.T, s *store.Store, id api.Id, o api.Object) {
	t.Helper()
	if !s.Has(id) {
		t.Errorf("Has(%x) of %#v is false", id, o)
	}
	got, err := s.Get(id)
	wantSame(t, "Get", got, err, o)
	if b, err := s.Bytes(id); err != api.OK || !bytes.Equal(b, bytesOf(o)) || object.Id(b) != id {
		t.Errorf("Bytes(%x): % x %d, not % x", id, b, err, bytesOf(o))
	}
	blob, err := s.Blob(id)
	wantKind(t, "Blob", blob, err, o)
	tree, err := s.Tree(id)
	wantKind(t, "Tree", tree, err, o)
	commit, err := s.Commit(id)
	wantKind(t, "Commit", commit, err, o)
}

// wantKind wants an object from a call for a kind, or, of another kind, ErrKind and the zero one.
func wantKind(t *testing.T, call string, got api.Object, err api.Errno, o api.Object) {
	t.Helper()
	if reflect.TypeOf(got) == reflect.TypeOf(o) {
		wantSame(t, call, got, err, o)
	} else if err != api.ErrKind || !reflect.ValueOf(got).IsZero() {
		t.Errorf("%s of %#v: %#v %d", call, o, got, err)
	}
}

func wantSame(t *testing.T, call string, got api.Object, err api.Errno, o api.Object) {
	t.Helper()
	if err != api.OK || reflect.TypeOf(got) != reflect.TypeOf(o) || !bytes.Equal(bytesOf(got), bytesOf(o)) {
		t.Errorf("%s: %#v %d, not %#v", call, got, err, o)
	}
}

// wantNone wants an error of all calls that ask for an object.
func wantNone(t *testing.T, s *store.Store, id api.Id, asked api.Errno) {
	t.Helper()
	if o, err := s.Get(id); err != asked || o != nil {
		t.Errorf("Get(%x): %#v %d, not %d", id, o, err, asked)
	}
	if blob, err := s.Blob(id); err != asked || blob.Bytes != nil {
		t.Errorf("Blob(%x): %#v %d, not %d", id, blob, err, asked)
	}
	if tree, err := s.Tree(id); err != asked || tree.Entries != nil {
		t.Errorf("Tree(%x): %#v %d, not %d", id, tree, err, asked)
	}
	if commit, err := s.Commit(id); err != asked || !reflect.ValueOf(commit).IsZero() {
		t.Errorf("Commit(%x): %#v %d, not %d", id, commit, err, asked)
	}
	if b, err := s.Bytes(id); err != asked || b != nil {
		t.Errorf("Bytes(%x): % x %d, not %d", id, b, err, asked)
	}
	if s.Has(id) {
		t.Errorf("Has(%x) is true", id)
	}
}

// The chapter's rows.
func TestExamples(t *testing.T) {
	d := disk.New()
	s := open(t, d)
	blob, tree := exampleBlob(), exampleTree()
	put(t, s, blob, blob)
	if s.Len() != 1 {
		t.Errorf("%d objects", s.Len())
	}
	if b, err := s.Blob(idOf(blob)); err != api.OK || string(b.Bytes) != "a" {
		t.Errorf("Blob: %#v %d", b, err)
	}
	if none, err := s.Tree(idOf(blob)); err != api.ErrKind || none.Entries != nil {
		t.Errorf("Tree of a blob: %#v %d", none, err)
	}
	wantNone(t, s, 1, api.ErrNone)
	put(t, s, tree)
	o, err := s.Get(idOf(tree))
	if got, ok := o.(api.Tree); err != api.OK || !ok || !slices.Equal(got.Entries, tree.Entries) {
		t.Errorf("Get of a tree: %#v %d", o, err)
	}
	wantPut(t, "nil", s, nil, object.Check(nil))
	wantSince(t, s, 1, idOf(tree))
	wantSince(t, s, -5, idOf(blob), idOf(tree))
	again := open(t, d)
	if again.Len() != 2 || !again.Has(idOf(blob)) {
		t.Errorf("opened again: %d objects", again.Len())
	}
	wantObjects(t, again, blob, tree)
}

// P7.3: each kind by its calls, ErrKind of the others, the empty ones and the one of the id 1 among them.
func TestKinds(t *testing.T) {
	d := disk.New()
	s := open(t, d)
	list := []api.Object{
		exampleCommit(), exampleTree(), exampleBlob(), api.Tree{}, api.Blob{}, api.Commit{Tree: 1}, zeroBlob(),
		blobOf("t\x00"), api.Commit{Tree: 1, Parents: []api.Id{1, 1}, Date: math.MinInt64}, api.Tree{Entries: []api.Entry{{Name: "x", Folder: true, Id: 1}}},
	}
	for k := range list {
		wantNone(t, s, idOf(list[k]), api.ErrNone)
		put(t, s, list[k])
		wantObjects(t, s, list[:k+1]...)
	}
	wantObject(t, s, 1, zeroBlob())
	for _, id := range []api.Id{0, 2, math.MaxUint64, idOf(blobOf("b"))} {
		wantNone(t, s, id, api.ErrNone)
	}
	wantObjects(t, open(t, d), list...)
}

// R4: of a nil store.
func TestNil(t *testing.T) {
	var s *store.Store
	wantNone(t, s, 0, api.ErrNil)
	wantNone(t, s, 1, api.ErrNil)
	wantPut(t, "a blob", s, exampleBlob(), api.ErrNil)
	wantPut(t, "nil", s, nil, api.ErrNil)
	if s.Len() != 0 {
		t.Errorf("Len of nil: %d", s.Len())
	}
	wantSince(t, s, 0)
	wantSince(t, s, -1)
}

// P7.3: Since, at all places.
func TestSincePlaces(t *testing.T) {
	s := open(t, disk.New())
	wantSince(t, s, 0)
	list := []api.Object{blobOf("c"), blobOf("a"), exampleTree(), blobOf("b")}
	put(t, s, list...)
	ids := idsOf(list...)
	for _, n := range []int{math.MinInt, -1, 0} {
		wantSince(t, s, n, ids...)
	}
	for n := range ids {
		wantSince(t, s, n, ids[n:]...)
	}
	for _, n := range []int{4, 5, math.MaxInt} {
		wantSince(t, s, n)
	}
}

// R6: Since is left early, gone through again, and tells what there is when that begins, not when it was asked for, nor what is put in meanwhile.
func TestSinceAgain(t *testing.T) {
	s := open(t, disk.New())
	early := s.Since(1)
	for range early {
		t.Error("told of nothing")
	}
	put(t, s, blobOf("0"), blobOf("1"), blobOf("2"))
	for range 2 {
		for id := range early {
			if id != idOf(blobOf("1")) {
				t.Errorf("first %x", id)
			}
			break
		}
	}
	var all []api.Id
	for id := range early {
		put(t, s, blobOf("3"), blobOf("4"), blobOf("5"), blobOf("6"), blobOf("7"))
		all = append(all, id)
		for inner := range early {
			all = append(all, inner)
			break
		}
	}
	if !slices.Equal(all, idsOf(blobOf("1"), blobOf("1"), blobOf("2"), blobOf("1"))) {
		t.Errorf("told %x", all)
	}
	if n := len(told(s, 1)); n != 7 {
		t.Errorf("%d ids", n)
	}
}
