package object

import "espalier/api"

// Blob: P6.5.
func Blob(o api.Object) (api.Blob, bool) { return asBlob(o) }

// Tree: P6.5.
func Tree(o api.Object) (api.Tree, bool) { return asTree(o) }

// Commit: P6.5.
func Commit(o api.Object) (api.Commit, bool) { return asCommit(o) }

// MustTree: P6.5. Of what is no tree it panics.
func MustTree(o api.Object) api.Tree { return mustTree(o) }

// MustCommit: P6.5. Of what is no commit it panics.
func MustCommit(o api.Object) api.Commit { return mustCommit(o) }

func asBlob(o api.Object) (api.Blob, bool) {
	blob, ok := o.(api.Blob)
	return blob, ok
}

func asTree(o api.Object) (api.Tree, bool) {
	tree, ok := o.(api.Tree)
	return tree, ok
}

func asCommit(o api.Object) (api.Commit, bool) {
	commit, ok := o.(api.Commit)
	return commit, ok
}

func mustTree(o api.Object) api.Tree { return o.(api.Tree) }

func mustCommit(o api.Object) api.Commit { return o.(api.Commit) }
