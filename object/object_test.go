package object_test

import (
	"math/rand"
	"strings"
	"testing"

	"espalier/api"
	"espalier/object"
)

// The objects of the chapter's examples.
func exampleBlob() api.Blob { return api.Blob{Bytes: []byte("ab")} }
func exampleTree() api.Tree { return treeOf(api.Entry{Name: "x", Id: 258}) }
func exampleCommit() api.Commit {
	return api.Commit{Tree: 258, Parents: []api.Id{1}, Author: "é", Date: -1}
}

func treeOf(entries ...api.Entry) api.Tree { return api.Tree{Entries: entries} }

// file is an entry with some id.
func file(name string) api.Entry { return api.Entry{Name: name, Id: 7} }

// changed is the example's commit with something changed.
func changed(change func(c *api.Commit)) api.Commit {
	commit := exampleCommit()
	change(&commit)
	return commit
}

// wrapped answers to the interface, and is none of the three.
type wrapped struct{ api.Tree }
type holder struct{ api.Object }

// noneOfThree are objects by their interface alone.
func noneOfThree() map[string]api.Object {
	blob, tree, commit := exampleBlob(), exampleTree(), exampleCommit()
	var noBlob *api.Blob
	var noTree *api.Tree
	var noCommit *api.Commit
	return map[string]api.Object{
		"nil": nil, "*Blob": &blob, "*Tree": &tree, "*Commit": &commit,
		"nil *Blob": noBlob, "nil *Tree": noTree, "nil *Commit": noCommit,
		"a wrapped Tree": wrapped{tree}, "a pointer to one": &wrapped{tree}, "a held Commit": holder{commit}, "one that holds nil": holder{},
	}
}

func wantCheck(t *testing.T, what string, o api.Object, asked api.Errno) {
	t.Helper()
	if err := object.Check(o); err != asked {
		t.Errorf("Check of %s: %d, not %d", what, err, asked)
	}
	if b, err := object.Encode(o); err != asked || asked != api.OK && b != nil {
		t.Errorf("Encode of %s: % x %d, not %d", what, b, err, asked)
	}
	if id, err := object.Of(o); err != asked || asked != api.OK && id != 0 {
		t.Errorf("Of of %s: %d %d, not %d", what, id, err, asked)
	}
	if same := object.Same(o, o); same != (asked == api.OK) {
		t.Errorf("Same of %s and it: %t", what, same)
	}
}

func wantKind(t *testing.T, what string, o api.Object, asked int) {
	t.Helper()
	if kind := object.Kind(o); kind != asked {
		t.Errorf("Kind of %s: %d, not %d", what, kind, asked)
	}
}

// The chapter's rows of Kind and Check.
func TestExamplesChecks(t *testing.T) {
	blob := exampleBlob()
	wantKind(t, "B", blob, 1)
	wantKind(t, "nil", nil, 0)
	wantKind(t, "a pointer to B", &blob, 0)
	wantCheck(t, "a pointer to B", &blob, api.ErrObject)
	wantCheck(t, "a tree with b and a", treeOf(file("b"), file("a")), api.ErrOrder)
	wantCheck(t, "a tree with a twice", treeOf(file("a"), file("a")), api.ErrOrder)
	wantCheck(t, "a tree with a/b", treeOf(file("a/b")), api.ErrName)
	wantCheck(t, "a tree with an Id 0", treeOf(api.Entry{Name: "a"}), api.ErrArg)
	wantCheck(t, "C with the author FF", changed(func(c *api.Commit) { c.Author = "\xff" }), api.ErrRight)
	wantCheck(t, "C with the text 61 00", changed(func(c *api.Commit) { c.Text = "a\x00" }), api.ErrRight)
	wantCheck(t, "C with nine parents", changed(func(c *api.Commit) { c.Parents = []api.Id{1, 2, 3, 4, 5, 6, 7, 8, 9} }), api.ErrLong)
	wantCheck(t, "C with the tree 0", changed(func(c *api.Commit) { c.Tree = 0 }), api.ErrArg)
	wantCheck(t, "B", blob, api.OK)
	wantCheck(t, "T", exampleTree(), api.OK)
	wantCheck(t, "C", exampleCommit(), api.OK)
}

// P6.1: nil, pointers, and other types that answer to the interface are none of the three.
func TestNoneOfThree(t *testing.T) {
	for what, o := range noneOfThree() {
		wantCheck(t, what, o, api.ErrObject)
		wantKind(t, what, o, api.KindNone)
	}
}

// P6.1: the kind hangs on the type alone.
func TestKindOfWrong(t *testing.T) {
	wantKind(t, "the zero blob", api.Blob{}, api.KindBlob)
	wantKind(t, "the zero tree", api.Tree{}, api.KindTree)
	wantKind(t, "the zero commit", api.Commit{}, api.KindCommit)
	wantKind(t, "a long blob", api.Blob{Bytes: make([]byte, 5000)}, api.KindBlob)
	wantKind(t, "a tree with no name", treeOf(api.Entry{}), api.KindTree)
	wantKind(t, "C with the author FF", changed(func(c *api.Commit) { c.Author = "\xff" }), api.KindCommit)
	if api.KindNone != 0 || api.KindBlob != 1 || api.KindTree != 2 || api.KindCommit != 3 {
		t.Error("the kinds have other numbers")
	}
}

// P6.1: a blob of the most bytes, and of one more.
func TestBlobEdges(t *testing.T) {
	wantCheck(t, "the blob of none", api.Blob{}, api.OK)
	wantCheck(t, "the blob of the most", api.Blob{Bytes: make([]byte, 4096)}, api.OK)
	wantCheck(t, "the blob of one more", api.Blob{Bytes: make([]byte, 4097)}, api.ErrLong)
}

// numbered is n entries whose names rise.
func numbered(n int) []api.Entry {
	var entries []api.Entry
	for k := range n {
		entries = append(entries, file("n"+string(rune(0x1000+k))))
	}
	return entries
}

// P6.1: a tree's limits, names and their order, byte by byte.
func TestTreeEdges(t *testing.T) {
	for _, c := range []struct {
		what  string
		tree  api.Tree
		asked api.Errno
	}{
		{"no entries", treeOf(), api.OK},
		{"the most entries", treeOf(numbered(256)...), api.OK},
		{"one more", treeOf(numbered(257)...), api.ErrLong},
		{"one more, and wrong ones", treeOf(make([]api.Entry, 257)...), api.ErrLong},
		{"the most, and the last one wrong", treeOf(append(numbered(255), file("a"))...), api.ErrOrder},
		{"no name", treeOf(file("")), api.ErrName},
		{"a point", treeOf(file(".")), api.ErrName},
		{"a long name", treeOf(file(strings.Repeat("a", 33))), api.ErrLong},
		{"a long name that is none", treeOf(file(strings.Repeat("\xff", 33))), api.ErrLong},
		{"the longest name", treeOf(file(strings.Repeat("a", 32))), api.OK},
		{"a broken byte", treeOf(file("a\xff")), api.ErrName},
		{"U+FFFD", treeOf(file("a\ufffd")), api.OK},
		{"a beginning of the other", treeOf(file("a"), file("ab"), file("ab.")), api.OK},
		{"the same, the other way round", treeOf(file("ab"), file("a")), api.ErrOrder},
		{"bytes, not letters", treeOf(file("B"), file("a"), file("z"), file("é")), api.OK},
		{"letters, not bytes", treeOf(file("a"), file("é"), file("z")), api.ErrOrder},
		{"bytes, not 16-bit units", treeOf(file("\uffee"), file("\U00010000")), api.OK},
		{"a folder with a file's name", treeOf(file("a"), api.Entry{Name: "a", Folder: true, Id: 1}), api.ErrOrder},
		{"a folder stands by its name alone", treeOf(api.Entry{Name: "a", Folder: true, Id: 1}, file("a.b")), api.OK},
		{"the third is out of order", treeOf(file("a"), file("c"), file("b")), api.ErrOrder},
		{"one id twice", treeOf(file("a"), file("b")), api.OK},
		{"a name that is none, out of order, without an id", treeOf(file("b"), api.Entry{Name: "a/"}), api.ErrName},
		{"out of order, without an id", treeOf(file("b"), api.Entry{Name: "a"}), api.ErrOrder},
		{"without an id, then a name that is none", treeOf(api.Entry{Name: "a"}, file("/")), api.ErrArg},
		{"out of order, then a long name", treeOf(file("b"), file("a"), file(strings.Repeat("x", 33))), api.ErrOrder},
	} {
		wantCheck(t, "a tree: "+c.what, c.tree, c.asked)
	}
}

// P6.1: a commit's limits and texts, and which comes first.
func TestCommitEdges(t *testing.T) {
	long, wrong := strings.Repeat("a", 1025), "\xff"
	for _, c := range []struct {
		what   string
		change func(c *api.Commit)
		asked  api.Errno
	}{
		{"no parents", func(c *api.Commit) { c.Parents = nil }, api.OK},
		{"the most parents", func(c *api.Commit) { c.Parents = []api.Id{8, 7, 6, 5, 4, 3, 2, 1} }, api.OK},
		{"one parent twice", func(c *api.Commit) { c.Parents = []api.Id{1, 1} }, api.OK},
		{"the tree as a parent", func(c *api.Commit) { c.Parents = []api.Id{258} }, api.OK},
		{"a parent 0", func(c *api.Commit) { c.Parents = []api.Id{0} }, api.ErrArg},
		{"the last parent 0", func(c *api.Commit) { c.Parents = []api.Id{1, 2, 0} }, api.ErrArg},
		{"no author", func(c *api.Commit) { c.Author = "" }, api.OK},
		{"the longest author", func(c *api.Commit) { c.Author = long[:64] }, api.OK},
		{"one byte more", func(c *api.Commit) { c.Author = long[:65] }, api.ErrLong},
		{"33 runes of 66 bytes", func(c *api.Commit) { c.Author = strings.Repeat("é", 33) }, api.ErrLong},
		{"the longest text", func(c *api.Commit) { c.Text = long[:1024] }, api.OK},
		{"one byte more of text", func(c *api.Commit) { c.Text = long }, api.ErrLong},
		{"runes that no name has", func(c *api.Commit) { c.Author, c.Text = "a/\n\x01\x7f", "\x1f\t\r\n.." }, api.OK},
		{"U+FFFD", func(c *api.Commit) { c.Author, c.Text = "\ufffd", "\ufffd\ufffd" }, api.OK},
		{"a byte 00 in the author", func(c *api.Commit) { c.Author = "\x00" }, api.ErrRight},
		{"a broken byte in the text", func(c *api.Commit) { c.Text = "a\xe2\x82" }, api.ErrRight},
		{"U+FFFD and a broken byte", func(c *api.Commit) { c.Text = "\ufffd\xbd" }, api.ErrRight},
		{"a half of a pair", func(c *api.Commit) { c.Author = "\xed\xa0\x80" }, api.ErrRight},
		{"a byte 00 at too great a length", func(c *api.Commit) { c.Author = "\xc0\x80" }, api.ErrRight},
		{"beyond the last rune", func(c *api.Commit) { c.Author = "\xf4\x90\x80\x80" }, api.ErrRight},
		{"tree, parents", func(c *api.Commit) { c.Tree, c.Parents = 0, make([]api.Id, 9) }, api.ErrArg},
		{"parents, one of them 0", func(c *api.Commit) { c.Parents = make([]api.Id, 9) }, api.ErrLong},
		{"a parent 0, author", func(c *api.Commit) { c.Parents, c.Author = make([]api.Id, 1), long }, api.ErrArg},
		{"author, long and wrong", func(c *api.Commit) { c.Author = wrong + long }, api.ErrLong},
		{"author wrong, text long", func(c *api.Commit) { c.Author, c.Text = wrong, long }, api.ErrRight},
		{"author long, text wrong", func(c *api.Commit) { c.Author, c.Text = long, wrong }, api.ErrLong},
		{"text, long and wrong", func(c *api.Commit) { c.Text = wrong + long }, api.ErrLong},
	} {
		wantCheck(t, "a commit: "+c.what, changed(c.change), c.asked)
	}
	wantCheck(t, "the zero commit", api.Commit{}, api.ErrArg)
	wantCheck(t, "a commit of a tree alone", api.Commit{Tree: 1}, api.OK)
}

// P6.1: Check and Kind as the chapter's words say, of objects that may be and of others.
func TestCheckByModel(t *testing.T) {
	r := rand.New(rand.NewSource(61))
	told := map[api.Errno]int{}
	for k := range 20000 {
		o := randomObject(r, k%2 == 0)
		asked := errorOf(o)
		if err := object.Check(o); err != asked {
			t.Fatalf("Check(%#v): %d, not %d", o, err, asked)
		}
		if kind := object.Kind(o); kind != kindOf(o) {
			t.Fatalf("Kind(%#v): %d", o, kind)
		}
		told[asked]++
	}
	for _, err := range []api.Errno{api.OK, api.ErrArg, api.ErrLong, api.ErrName, api.ErrOrder, api.ErrRight} {
		if told[err] < 50 {
			t.Errorf("%d objects with the error %d", told[err], err)
		}
	}
}

// P6.6: a range over a text of an object that may be tells runes alone.
func TestTextsAreRunes(t *testing.T) {
	r := rand.New(rand.NewSource(62))
	hold := func(o api.Object, text string) {
		again := ""
		for _, letter := range text {
			again += string(letter)
		}
		if again != text {
			t.Fatalf("%q is no text of runes: %#v", text, o)
		}
	}
	for k := range 20000 {
		o := randomObject(r, k%2 == 0)
		if object.Check(o) != api.OK {
			continue
		}
		if tree, ok := object.Tree(o); ok {
			for _, entry := range tree.Entries {
				hold(o, entry.Name)
			}
		}
		if commit, ok := object.Commit(o); ok {
			hold(o, commit.Author)
			hold(o, commit.Text)
		}
	}
}
