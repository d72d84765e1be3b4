package object_test

import (
	"math/rand"
	"slices"
	"testing"

	"espalier/api"
	"espalier/object"
)

func wantLinks(t *testing.T, o api.Object, asked ...api.Id) {
	t.Helper()
	if ids := object.Links(o); !slices.Equal(ids, asked) {
		t.Errorf("Links(%#v): %v, not %v", o, ids, asked)
	}
}

// The chapter's row of Links.
func TestExamplesLinks(t *testing.T) {
	wantLinks(t, exampleCommit(), 258, 1)
	wantLinks(t, exampleTree(), 258)
	wantLinks(t, exampleBlob())
}

// P6.4: the order is the object's; an id that stands twice is told twice.
func TestLinksInOrder(t *testing.T) {
	wantLinks(t, treeOf(api.Entry{Name: "a", Id: 9}, api.Entry{Name: "b", Folder: true, Id: 3}, api.Entry{Name: "c", Id: 9}), 9, 3, 9)
	wantLinks(t, api.Commit{Tree: 5}, 5)
	wantLinks(t, api.Commit{Tree: 5, Parents: []api.Id{7, 5, 7, 2}}, 5, 7, 5, 7, 2)
	wantLinks(t, api.Tree{})
	wantLinks(t, api.Blob{})
}

// P6.4: what may not be, and what is none of the three, leads nowhere.
func TestLinksOfWrong(t *testing.T) {
	wantLinks(t, treeOf(file("b"), file("a")))
	wantLinks(t, treeOf(file("a"), api.Entry{Name: "b"}))
	wantLinks(t, treeOf(numbered(257)...))
	wantLinks(t, api.Commit{Parents: []api.Id{1}})
	wantLinks(t, changed(func(c *api.Commit) { c.Parents = []api.Id{1, 0} }))
	wantLinks(t, changed(func(c *api.Commit) { c.Text = "\xff" }))
	for _, o := range noneOfThree() {
		wantLinks(t, o)
	}
	r := rand.New(rand.NewSource(65))
	for k := range 5000 {
		o := randomObject(r, k%2 == 0)
		if errorOf(o) != api.OK {
			wantLinks(t, o)
		} else {
			wantLinks(t, o, linksOf(o)...)
		}
	}
}

// P6.4, R3: what Links answers is no memory of the object's.
func TestLinksShareNothing(t *testing.T) {
	for _, o := range []api.Object{treeOf(numbered(3)...), changed(func(c *api.Commit) { c.Parents = []api.Id{5, 6} })} {
		asked := linksOf(o)
		spoil(object.Links(o))
		wantLinks(t, o, asked...)
	}
}

// P6.4: a copy has the type and the fields, whether it may be or not.
func TestCopy(t *testing.T) {
	r := rand.New(rand.NewSource(66))
	all := []api.Object{
		api.Blob{}, api.Tree{}, api.Commit{}, exampleBlob(), exampleTree(), exampleCommit(), api.Blob{Bytes: make([]byte, 5000)},
		treeOf(numbered(300)...), treeOf(api.Entry{}), changed(func(c *api.Commit) { c.Parents = make([]api.Id, 20); c.Author, c.Text = "\xff", "\x00" }),
	}
	for k := range 2000 {
		all = append(all, randomObject(r, k%2 == 0))
	}
	for _, o := range all {
		if other := object.Copy(o); !equal(other, o) {
			t.Errorf("Copy(%#v): %#v", o, other)
		}
	}
	for what, o := range noneOfThree() {
		if other := object.Copy(o); other != nil {
			t.Errorf("Copy of %s: %#v", what, other)
		}
	}
}

// P6.4: a copy stands in memory of its own, the room behind its lists' ends too.
func TestCopySharesNothing(t *testing.T) {
	blob := api.Blob{Bytes: []byte("abcd")[:2]}
	spoil(object.Copy(blob).(api.Blob).Bytes)
	if string(blob.Bytes[:4]) != "abcd" {
		t.Errorf("a copy is the blob: %s", blob.Bytes[:4])
	}
	tree := treeOf(numbered(4)[:2]...)
	spoil(object.Copy(tree).(api.Tree).Entries)
	if !slices.Equal(tree.Entries[:4], numbered(4)) {
		t.Errorf("a copy is the tree: %v", tree.Entries[:4])
	}
	parents := []api.Id{1, 2, 3, 4}
	commit := api.Commit{Tree: 1, Parents: parents[:2]}
	spoil(object.Copy(commit).(api.Commit).Parents)
	if !slices.Equal(parents, []api.Id{1, 2, 3, 4}) {
		t.Errorf("a copy is the commit: %v", parents)
	}
	none := api.Blob{Bytes: []byte("ab")[:0]}
	if other := object.Copy(none).(api.Blob); string(append(other.Bytes, 'x')) != "x" || string(none.Bytes[:2]) != "ab" {
		t.Errorf("a copy of a blob without bytes is the blob: %s", none.Bytes[:2])
	}
	empty := api.Commit{Tree: 1, Parents: parents[:0]}
	if other := object.Copy(empty).(api.Commit); append(other.Parents, 9)[0] != 9 || parents[0] != 1 {
		t.Errorf("a copy of a commit without parents is the commit: %v", parents)
	}
}
