package store_test

import (
	"strconv"
	"strings"
	"testing"

	"espalier/api"
	"espalier/disk"
	"espalier/object"
	"espalier/store"
)

// wrapped answers to the interface, and is none of the three.
type wrapped struct{ api.Tree }

// P7.2: what may not be is answered as object.Check does, and nothing is written.
func TestPutWrong(t *testing.T) {
	d := disk.New()
	s := open(t, d)
	blob, tree, commit := exampleBlob(), exampleTree(), exampleCommit()
	put(t, s, blob, tree)
	before := d.Writes()
	d.Cut(0)
	for _, c := range []struct {
		what  string
		o     api.Object
		asked api.Errno
	}{
		{"nil", nil, api.ErrObject},
		{"a pointer to a blob", &blob, api.ErrObject},
		{"a pointer to a tree", &tree, api.ErrObject},
		{"a pointer to a commit", &commit, api.ErrObject},
		{"a nil pointer", (*api.Tree)(nil), api.ErrObject},
		{"a wrapped tree", wrapped{tree}, api.ErrObject},
		{"a long blob", api.Blob{Bytes: make([]byte, 4097)}, api.ErrLong},
		{"a tree with no name", api.Tree{Entries: []api.Entry{{Id: 1}}}, api.ErrName},
		{"a tree with one name twice", api.Tree{Entries: append(tree.Entries, tree.Entries...)}, api.ErrOrder},
		{"a tree with no id", api.Tree{Entries: []api.Entry{{Name: "x"}}}, api.ErrArg},
		{"a tree of too many", api.Tree{Entries: make([]api.Entry, 257)}, api.ErrLong},
		{"a commit of no tree", api.Commit{}, api.ErrArg},
		{"a commit with a broken text", api.Commit{Tree: 1, Text: "\xff"}, api.ErrRight},
		{"a commit with a long author", api.Commit{Tree: 1, Author: strings.Repeat("a", 65)}, api.ErrLong},
	} {
		if err := object.Check(c.o); err != c.asked {
			t.Errorf("Check of %s: %d", c.what, err)
		}
		wantPut(t, c.what, s, c.o, c.asked)
	}
	wantWrites(t, d, before)
	wantObjects(t, s, blob, tree)
	d.Mend()
	put(t, s, commit) // none of these was cut
}

// P7.2: to what an object leads is not asked for.
func TestPutAlone(t *testing.T) {
	d := disk.New()
	s := open(t, d)
	list := []api.Object{api.Commit{Tree: 7, Parents: []api.Id{8}}, api.Tree{Entries: []api.Entry{{Name: "x", Folder: true, Id: idOf(exampleBlob())}}}, exampleBlob()}
	put(t, s, list...)
	wantObjects(t, s, list...)
	wantObjects(t, open(t, d), list...)
}

// P7.2, P7.4: what is there already is answered by its id, and nothing is written: on a cut disk and behind an Open, too.
func TestPutAgain(t *testing.T) {
	d := disk.New()
	s := open(t, d)
	list := []api.Object{exampleBlob(), exampleTree(), exampleCommit(), api.Blob{}, api.Tree{}, zeroBlob()}
	put(t, s, list...)
	before := d.Writes()
	put(t, s, list...)
	put(t, s, api.Blob{Bytes: []byte{}}, api.Tree{Entries: []api.Entry{}})
	d.Cut(0)
	put(t, s, list...)
	wantPut(t, "a new one, cut", s, blobOf("new"), api.ErrCut)
	put(t, s, list...)
	wantObjects(t, s, list...)
	again := open(t, d)
	put(t, again, list...)
	wantObjects(t, again, list...)
	d.Mend()
	wantWrites(t, d, before)
	wantFile(t, d, fileOf(list...))
}

// P7.2, P7.4: one id never has two objects.
func TestPutCollision(t *testing.T) {
	for _, behind := range []string{"", "a", strings.Repeat("x", 4087)} {
		one, other := colliding(behind)
		if idOf(one) != idOf(other) || object.Same(one, other) {
			t.Fatal("these two do not collide")
		}
		for range 2 {
			d := disk.New()
			s := open(t, d)
			put(t, s, exampleTree(), one)
			before := d.Writes()
			wantPut(t, "the other", s, other, api.ErrCollision)
			d.Cut(0)
			wantPut(t, "the other, cut", s, other, api.ErrCollision)
			d.Mend()
			wantWrites(t, d, before)
			wantObjects(t, s, exampleTree(), one)
			put(t, s, one, blobOf("more"))
			again := open(t, d)
			wantObjects(t, again, exampleTree(), one, blobOf("more"))
			wantPut(t, "the other, opened again", again, other, api.ErrCollision)
			one, other = other, one
		}
	}
}

// P7.2: MaxObjects objects, and one more: ErrLong behind a collision and ahead of a cut; what is there goes in yet.
func TestPutLong(t *testing.T) {
	one, other := colliding("")
	d := diskOf(t, fileOf(one), manyBlobs(api.MaxObjects-2))
	s := open(t, d)
	put(t, s, exampleTree())
	if s.Len() != 1<<16 {
		t.Fatalf("%d objects", s.Len())
	}
	before := d.Writes()
	for range 2 {
		wantPut(t, "one more", s, exampleCommit(), api.ErrLong)
		wantPut(t, "the other", s, other, api.ErrCollision)
		wantPut(t, "nil", s, nil, api.ErrObject)
		put(t, s, one, manyBlob(0), exampleTree())
		d.Cut(0)
	}
	wantWrites(t, d, before)
	d.Mend()
	s = open(t, d)
	if s.Len() != 1<<16 {
		t.Errorf("%d objects", s.Len())
	}
	wantObject(t, s, idOf(exampleTree()), exampleTree())
	wantSince(t, s, 1<<16-1, idOf(exampleTree()))
	wantPut(t, "one more, opened again", s, exampleCommit(), api.ErrLong)
}

// P7.2: disk's errors; behind those that are no cut a store goes on.
func TestPutDiskErrors(t *testing.T) {
	d := disk.New()
	for k := range api.MaxFiles {
		if err := d.Append(strconv.Itoa(k), nil); err != api.OK {
			t.Fatal(err)
		}
	}
	s := open(t, d)
	wantPut(t, "one beside all files", s, exampleBlob(), api.ErrLong)
	wantObjects(t, s)
	wantNone(t, s, idOf(exampleBlob()), api.ErrNone)
	if err := d.Remove("0"); err != api.OK {
		t.Fatal(err)
	}
	put(t, s, exampleBlob())
	wantObjects(t, s, exampleBlob())
	wantObjects(t, open(t, d), exampleBlob())
}

// P7.2: a file has at most MaxFile bytes.
func TestPutFull(t *testing.T) {
	d := disk.New()
	s := open(t, d)
	var list []api.Object
	big := func(k int) api.Blob {
		b := make([]byte, 4096)
		b[0], b[1] = byte(k), byte(k>>8)
		return api.Blob{Bytes: b}
	}
	for k := range api.MaxFile / (4096 + 1 + 2 + 8) {
		list = append(list, big(k))
		put(t, s, big(k))
	}
	before := d.Writes()
	wantPut(t, "one too many", s, big(5000), api.ErrLong)
	wantNone(t, s, idOf(big(5000)), api.ErrNone)
	wantWrites(t, d, before)
	put(t, s, exampleBlob())
	wantObjects(t, s, append(list, exampleBlob())...)
	wantObjects(t, open(t, d), append(list, exampleBlob())...)
}

// spoil changes a list, and the room behind its end.
func spoil[T any](list []T, with T) {
	list = list[:cap(list)]
	for k := range list {
		list[k] = with
	}
}

// R3, P7.4: what is handed in is not kept, and neither is what is answered: nobody can change what a store has.
func TestSharesNothing(t *testing.T) {
	d := disk.New()
	s := open(t, d)
	for range 2 {
		blob, tree, commit := exampleBlob(), exampleTree(), exampleCommit()
		blob.Bytes = append(make([]byte, 0, 64), blob.Bytes...)
		tree.Entries = append(make([]api.Entry, 0, 8), tree.Entries...)
		put(t, s, blob, tree, commit)
		spoilAll(blob, tree, commit)
	}
	list := []api.Object{exampleBlob(), exampleTree(), exampleCommit()}
	for _, s := range []*store.Store{s, open(t, d)} {
		for _, o := range list {
			b, _ := s.Bytes(idOf(o))
			spoil(b, 0xee)
			got, _ := s.Get(idOf(o))
			spoilAll(got)
		}
		blob, _ := s.Blob(idOf(list[0]))
		tree, _ := s.Tree(idOf(list[1]))
		commit, _ := s.Commit(idOf(list[2]))
		spoilAll(blob, tree, commit)
		wantObjects(t, s, list...)
	}
	wantFile(t, d, fileOf(list...))
}

func spoilAll(list ...api.Object) {
	for _, o := range list {
		switch o := o.(type) {
		case api.Blob:
			spoil(o.Bytes, 0xee)
		case api.Tree:
			spoil(o.Entries, api.Entry{Name: "spoiled"})
		case api.Commit:
			spoil(o.Parents, 0)
		}
	}
}

// R3: Put does not change what it is handed, nor the room behind its end.
func TestPutChangesNothing(t *testing.T) {
	s := open(t, disk.New())
	room := []byte("abcdef")
	entries := []api.Entry{{Name: "x", Id: 1}, {Name: "room", Id: 2}}
	parents := []api.Id{1, 2, 3}
	for range 2 {
		put(t, s, api.Blob{Bytes: room[:2]}, api.Tree{Entries: entries[:1]}, api.Commit{Tree: 1, Parents: parents[:1]})
	}
	if string(room) != "abcdef" || entries[0].Name != "x" || entries[1].Name != "room" || parents[1] != 2 || parents[2] != 3 {
		t.Errorf("changed: %q %v %v", room, entries, parents)
	}
}
