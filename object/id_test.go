package object_test

import (
	"hash/fnv"
	"math/rand"
	"testing"

	"espalier/api"
	"espalier/object"
	"espalier/octet"
)

// idOf is the id of bytes by another reckoning.
func idOf(b []byte) api.Id {
	hash := fnv.New64a()
	hash.Write(b)
	return api.Id(max(hash.Sum64(), 1))
}

// P6.3: Id of whatever bytes.
func TestId(t *testing.T) {
	for _, text := range []string{"", "a", "foobar", "b", "t\x00", "\xff\xff", "no object"} {
		if id := object.Id([]byte(text)); id != idOf([]byte(text)) || id != api.Id(octet.Hash([]byte(text))) {
			t.Errorf("Id(%q): %x, not %x", text, id, idOf([]byte(text)))
		}
	}
	if id := object.Id(nil); id != 14695981039346656037 {
		t.Errorf("Id of no bytes: %d", id)
	}
}

// zeroRow are bytes whose hash is 0.
func zeroRow() []byte { return row("d5 6b b9 53 42 87 08 36") }

// P6.3: the id of bytes whose hash is 0 is 1.
func TestIdIsNeverNone(t *testing.T) {
	if octet.Hash(zeroRow()) != 0 {
		t.Fatal("these bytes have another hash than 0")
	}
	if id := object.Id(zeroRow()); id != 1 {
		t.Errorf("Id of bytes whose hash is 0: %d", id)
	}
	blob := api.Blob{Bytes: row("06 fa 8c 3c 5c 76 f3 f2 de")}
	if octet.Hash(bytesOf(blob)) != 0 {
		t.Fatal("the bytes of this blob have another hash than 0")
	}
	if id, err := object.Of(blob); id != 1 || err != api.OK {
		t.Errorf("Of a blob whose bytes have the hash 0: %d %d", id, err)
	}
}

// P6.3: Of is the id of the object's bytes, or Check's error.
func TestOf(t *testing.T) {
	r := rand.New(rand.NewSource(64))
	for k := range 5000 {
		o := randomObject(r, k%2 == 0)
		id, err := object.Of(o)
		asked := api.Id(0)
		if errorOf(o) == api.OK {
			asked = idOf(bytesOf(o))
		}
		if id != asked || err != errorOf(o) {
			t.Fatalf("Of(%#v): %x %d, not %x %d", o, id, err, asked, errorOf(o))
		}
	}
	if id, err := object.Of(api.Blob{Bytes: []byte("a")}); err != api.OK || id != api.Id(octet.Hash([]byte{0x62, 0x61})) {
		t.Errorf("Of the blob of 61: %x %d", id, err)
	}
}

// P6.3, P6.6: Same goes by type and fields, is an equivalence of what may be, and Same objects have one id.
func TestSame(t *testing.T) {
	all := []api.Object{
		api.Blob{}, api.Blob{Bytes: []byte{}}, exampleBlob(), exampleBlob(), api.Blob{Bytes: []byte("\x00")}, api.Blob{Bytes: []byte("t\x00")},
		api.Tree{}, api.Tree{Entries: []api.Entry{}}, exampleTree(), exampleTree(),
		treeOf(api.Entry{Name: "x", Folder: true, Id: 258}), treeOf(api.Entry{Name: "x", Id: 259}), treeOf(api.Entry{Name: "y", Id: 258}),
		api.Commit{Tree: 258}, api.Commit{Tree: 258, Parents: []api.Id{}}, exampleCommit(), exampleCommit(),
		changed(func(c *api.Commit) { c.Tree++ }), changed(func(c *api.Commit) { c.Parents = []api.Id{2} }),
		changed(func(c *api.Commit) { c.Parents = []api.Id{1, 1} }), changed(func(c *api.Commit) { c.Author, c.Text = c.Text, c.Author }),
		changed(func(c *api.Commit) { c.Date = 1 }), changed(func(c *api.Commit) { c.Text = "a" }),
		api.Commit{}, api.Commit{}, treeOf(file("")), treeOf(file("")), api.Blob{Bytes: make([]byte, 4097)},
	}
	for _, o := range noneOfThree() {
		all = append(all, o)
	}
	for _, a := range all {
		for _, b := range all {
			asked := errorOf(a) == api.OK && errorOf(b) == api.OK && equal(a, b)
			if same := object.Same(a, b); same != asked || same != object.Same(b, a) {
				t.Errorf("Same(%#v, %#v): %t", a, b, same)
			}
			if !asked {
				continue
			}
			one, _ := object.Of(a)
			if two, _ := object.Of(b); one != two {
				t.Errorf("Of(%#v): %x, of the same %#v: %x", a, one, b, two)
			}
		}
	}
}

// P6.3: objects with one id and unlike bytes are not Same.
func TestSameGoesByBytes(t *testing.T) {
	a := api.Blob{Bytes: row("56 c7 6a a2 8d 57 56 c8 00")}
	b := api.Blob{Bytes: row("6f 72 a8 ff f2 7c e6 23 94")}
	one, _ := object.Of(a)
	two, _ := object.Of(b)
	if one != two {
		t.Fatalf("these blobs have the ids %x and %x", one, two)
	}
	if object.Same(a, b) || object.Same(b, a) || !object.Same(a, a) || !object.Same(b, b) {
		t.Error("Same goes by the ids")
	}
}
