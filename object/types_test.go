package object_test

import (
	"runtime"
	"testing"

	"espalier/api"
	"espalier/object"
)

// recovered answers what a call panics with, nil if it does not.
func recovered(call func()) (told any) {
	defer func() { told = recover() }()
	call()
	return nil
}

// wantPanic holds that a call panics as an assertion of one result does.
func wantPanic(t *testing.T, what string, call func()) {
	t.Helper()
	told := recovered(call)
	if _, ok := told.(*runtime.TypeAssertionError); !ok {
		t.Errorf("%s: %v is no failed assertion", what, told)
	}
	if _, ok := told.(runtime.Error); !ok {
		t.Errorf("%s: %v is no runtime.Error", what, told)
	}
}

// The chapter's row of Tree, MustCommit and MustTree.
func TestExamplesTypes(t *testing.T) {
	if tree, ok := object.Tree(exampleCommit()); ok || tree.Entries != nil {
		t.Errorf("Tree(C): %v %t", tree, ok)
	}
	if commit := object.MustCommit(exampleCommit()); !equal(commit, exampleCommit()) {
		t.Errorf("MustCommit(C): %v", commit)
	}
	wantPanic(t, "MustTree(C)", func() { object.MustTree(exampleCommit()) })
}

// P6.5: of each type the calls of that type alone, whether it may be or not.
func TestTypes(t *testing.T) {
	for _, o := range []api.Object{
		exampleBlob(), exampleTree(), exampleCommit(), api.Blob{}, api.Tree{}, api.Commit{},
		api.Blob{Bytes: make([]byte, 5000)}, treeOf(file("b"), file("a")), changed(func(c *api.Commit) { c.Tree, c.Text = 0, "\xff" }),
	} {
		blob, isBlob := object.Blob(o)
		tree, isTree := object.Tree(o)
		commit, isCommit := object.Commit(o)
		kind := kindOf(o)
		if isBlob != (kind == 1) || isTree != (kind == 2) || isCommit != (kind == 3) {
			t.Errorf("%#v: %t %t %t", o, isBlob, isTree, isCommit)
		}
		if isBlob && !equal(blob, o) || !isBlob && blob.Bytes != nil {
			t.Errorf("Blob(%#v): %#v", o, blob)
		}
		if isTree && !equal(tree, o) || !isTree && tree.Entries != nil {
			t.Errorf("Tree(%#v): %#v", o, tree)
		}
		if isCommit && !equal(commit, o) || !isCommit && !equal(commit, api.Commit{}) {
			t.Errorf("Commit(%#v): %#v", o, commit)
		}
	}
	for what, o := range noneOfThree() {
		blob, isBlob := object.Blob(o)
		tree, isTree := object.Tree(o)
		commit, isCommit := object.Commit(o)
		if isBlob || isTree || isCommit || blob.Bytes != nil || tree.Entries != nil || !equal(commit, api.Commit{}) {
			t.Errorf("%s: %v %v %v", what, blob, tree, commit)
		}
	}
}

// P6.5: MustTree and MustCommit answer what is of their type, and panic of all else.
func TestMust(t *testing.T) {
	for _, tree := range []api.Tree{{}, exampleTree(), treeOf(file("b"), file("a")), treeOf(api.Entry{})} {
		if told := object.MustTree(tree); !equal(told, tree) {
			t.Errorf("MustTree(%v): %v", tree, told)
		}
		wantPanic(t, "MustCommit of a tree", func() { object.MustCommit(tree) })
	}
	for _, commit := range []api.Commit{{}, exampleCommit(), changed(func(c *api.Commit) { c.Author = "\xff" })} {
		if told := object.MustCommit(commit); !equal(told, commit) {
			t.Errorf("MustCommit(%v): %v", commit, told)
		}
		wantPanic(t, "MustTree of a commit", func() { object.MustTree(commit) })
	}
	others := noneOfThree()
	others["a blob"] = exampleBlob()
	for what, o := range others {
		wantPanic(t, "MustTree of "+what, func() { object.MustTree(o) })
		wantPanic(t, "MustCommit of "+what, func() { object.MustCommit(o) })
	}
}

// P6.5: what these calls answer is the object itself, with its memory.
func TestTypesShare(t *testing.T) {
	bytes, entries, parents := []byte("ab"), numbered(2), []api.Id{1, 2}
	if blob, _ := object.Blob(api.Blob{Bytes: bytes}); &blob.Bytes[0] != &bytes[0] {
		t.Error("Blob answers another blob")
	}
	if tree, _ := object.Tree(api.Tree{Entries: entries}); &tree.Entries[0] != &entries[0] {
		t.Error("Tree answers another tree")
	}
	if commit, _ := object.Commit(api.Commit{Parents: parents}); &commit.Parents[0] != &parents[0] {
		t.Error("Commit answers another commit")
	}
	if tree := object.MustTree(api.Tree{Entries: entries}); &tree.Entries[0] != &entries[0] {
		t.Error("MustTree answers another tree")
	}
	if commit := object.MustCommit(api.Commit{Parents: parents}); &commit.Parents[0] != &parents[0] {
		t.Error("MustCommit answers another commit")
	}
}
