package project_test

import (
	"slices"
	"testing"

	"espalier/api"
	"espalier/disk"
	"espalier/object"
	"espalier/pathmap"
	"espalier/project"
	"espalier/store"
	"espalier/tree"
)

func open(t *testing.T) (*store.Store, *disk.Disk) {
	t.Helper()
	d := disk.New()
	return openDisk(t, d), d
}

func openDisk(t *testing.T, d *disk.Disk) *store.Store {
	t.Helper()
	s, err := store.Open(d)
	if err != api.OK {
		t.Fatalf("Open: %d", err)
	}
	return s
}

// put puts in an object that has to go in.
func put(t *testing.T, s *store.Store, o api.Object) api.Id {
	t.Helper()
	id, err := s.Put(o)
	if err != api.OK {
		t.Fatalf("Put(%#v): %d", o, err)
	}
	return id
}

func putBlob(t *testing.T, s *store.Store, text string) api.Id {
	t.Helper()
	return put(t, s, api.Blob{Bytes: []byte(text)})
}

func putTree(t *testing.T, s *store.Store, entries ...api.Entry) api.Id {
	t.Helper()
	return put(t, s, api.Tree{Entries: entries})
}

func file(name string, id api.Id) api.Entry   { return api.Entry{Name: name, Id: id} }
func folder(name string, id api.Id) api.Entry { return api.Entry{Name: name, Folder: true, Id: id} }

// idOf is the id of an object that may be.
func idOf(o api.Object) api.Id {
	id, err := object.Of(o)
	if err != api.OK {
		panic("an object that may not be")
	}
	return id
}

func emptyId() api.Id { return idOf(api.Tree{}) }

// digit is the id of the blob of a text, whether a store has it or not.
func digit(text string) api.Id { return idOf(api.Blob{Bytes: []byte(text)}) }

// missing is an id that no store of these tests has.
const missing api.Id = 7

// Blobs that have the ids of trees.
const (
	blobLikeEmpty = "\x00\x46\x28\x0a\x3f\xc3\x7b\x34\x57" // of the empty one
	blobLikeX     = "\x00\xf4\xad\x2f\xde\x88\xee\x97\x7b" // of x, the blob of 31
	blobLikeAB    = "\x00\xe9\x63\x45\x58\x69\xbe\x43\x9f" // of a/b, the blob of 31
)

// made is the tree of files, told as paths and what stands there.
func made(t *testing.T, s *store.Store, told ...string) api.Id {
	t.Helper()
	var list []api.File
	for k := 0; k < len(told); k += 2 {
		list = append(list, api.File{Path: told[k], Blob: putBlob(t, s, told[k+1])})
	}
	id, err := tree.Of(s, list)
	if err != api.OK {
		t.Fatalf("Of(%v): %d", told, err)
	}
	return id
}

func keep(from string) api.Rule     { return api.Rule{Kind: api.KeepRule, From: from} }
func drop(from string) api.Rule     { return api.Rule{Kind: api.DropRule, From: from} }
func move(from, to string) api.Rule { return api.Rule{Kind: api.MoveRule, From: from, To: to} }

// mapOf is the Map of rules that may be.
func mapOf(t *testing.T, rules ...api.Rule) *pathmap.Map {
	t.Helper()
	m, fault := pathmap.New(rules)
	if fault != (api.Fault{}) {
		t.Fatalf("New(%v): %v", rules, fault)
	}
	return m
}

// chapter is the Map of the chapter's section 'Examples', and chapterTree its tree T.
func chapter(t *testing.T) *pathmap.Map {
	t.Helper()
	return mapOf(t, keep("src"), drop("src/old"), move("docs/api", "man"))
}

func chapterTree(t *testing.T, s *store.Store) api.Id {
	t.Helper()
	return made(t, s, "src/a", "1", "src/old/b", "2", "docs/api/c", "3", "docs/d", "4")
}

// want wants a call to answer an id.
func want(t *testing.T, what string, asked api.Id) func(id api.Id, err api.Errno) {
	t.Helper()
	return func(id api.Id, err api.Errno) {
		t.Helper()
		if id != asked || err != api.OK {
			t.Errorf("%s: %x %d, not %x", what, id, err, asked)
		}
	}
}

// wantErr wants a call to answer an error, and no id.
func wantErr(t *testing.T, what string, asked api.Errno) func(id api.Id, err api.Errno) {
	t.Helper()
	return func(id api.Id, err api.Errno) {
		t.Helper()
		if id != 0 || err != asked {
			t.Errorf("%s: %x %d, not error %d", what, id, err, asked)
		}
	}
}

// wantSaid wants a call to answer a bool.
func wantSaid(t *testing.T, what string, asked bool) func(said bool, err api.Errno) {
	t.Helper()
	return func(said bool, err api.Errno) {
		t.Helper()
		if said != asked || err != api.OK {
			t.Errorf("%s: %v %d, not %v", what, said, err, asked)
		}
	}
}

// wantNo wants a call to answer an error, and no bool.
func wantNo(t *testing.T, what string, asked api.Errno) func(said bool, err api.Errno) {
	t.Helper()
	return func(said bool, err api.Errno) {
		t.Helper()
		if said || err != asked {
			t.Errorf("%s: %v %d, not error %d", what, said, err, asked)
		}
	}
}

// wantFiles wants a call to answer a sound tree of just these files, told as paths and what stands there, in their order.
func wantFiles(t *testing.T, s *store.Store, what string, asked ...string) func(id api.Id, err api.Errno) {
	t.Helper()
	return func(id api.Id, err api.Errno) {
		t.Helper()
		if err != api.OK {
			t.Errorf("%s: %d", what, err)
			return
		}
		if err := tree.Sound(s, id); err != api.OK {
			t.Errorf("%s: a tree that is not sound: %d", what, err)
		}
		list, _ := tree.Files(s, id, 1000)
		var told []string
		for _, f := range list {
			b, _ := s.Blob(f.Blob)
			told = append(told, f.Path, string(b.Bytes))
		}
		if !slices.Equal(told, asked) {
			t.Errorf("%s: %q, not %q", what, told, asked)
		}
	}
}

// pairs is what Pairs tells, one behind the other.
func pairs(s *store.Store, m *pathmap.Map, id api.Id) []string {
	var told []string
	for path, image := range project.Pairs(s, m, id) {
		told = append(told, path, image)
	}
	return told
}

func wantPairs(t *testing.T, s *store.Store, m *pathmap.Map, id api.Id, asked ...string) {
	t.Helper()
	if told := pairs(s, m, id); !slices.Equal(told, asked) {
		t.Errorf("Pairs: %q, not %q", told, asked)
	}
}

// wantSince wants just these to have been put in behind the first n objects.
func wantSince(t *testing.T, what string, s *store.Store, n int, asked ...api.Id) {
	t.Helper()
	if ids := slices.Collect(s.Since(n)); !slices.Equal(ids, asked) {
		t.Errorf("%s: put in: %x, not %x", what, ids, asked)
	}
}

// P15.1 to P15.3: the rows of the chapter's section 'Examples'.
func TestExamples(t *testing.T) {
	s, _ := open(t)
	m, id := chapter(t), chapterTree(t, s)
	wantFiles(t, s, "Of", "man/c", "3", "src/a", "1")(project.Of(s, m, id))
	wantFiles(t, s, "Outside", "docs/d", "4", "src/old/b", "2")(project.Outside(s, m, id))
	wantPairs(t, s, m, id, "docs/api/c", "man/c", "src/a", "src/a")
	one := made(t, s, "man/e", "5")
	wantFiles(t, s, "Back", "docs/api/e", "5", "docs/d", "4", "src/old/b", "2")(project.Back(s, m, id, one))
	wantSaid(t, "Inside of man/e", true)(project.Inside(s, m, one))
	stray := made(t, s, "x", "5")
	wantErr(t, "Back of x", api.ErrImage)(project.Back(s, m, id, stray))
	wantSaid(t, "Inside of x", false)(project.Inside(s, m, stray))
	wantErr(t, "Back into docs", api.ErrClash)(project.Back(s, m, made(t, s, "docs", "6"), one))
	wantSaid(t, "Alike but for docs/d", true)(project.Alike(s, m, id, made(t, s, "src/a", "1", "src/old/b", "2", "docs/api/c", "3", "docs/d", "7")))
	wantSaid(t, "Alike but for src/a", false)(project.Alike(s, m, id, made(t, s, "src/a", "7", "src/old/b", "2", "docs/api/c", "3", "docs/d", "4")))
}

// P15.1: rules of all kinds, at folders and at files.
func TestOf(t *testing.T) {
	s, _ := open(t)
	id := made(t, s, "a/b/c", "1", "a/b/d", "2", "a/e", "3", "ab", "4", "f/g/h/i", "5", "f/g/j", "6", "k", "7")
	for _, c := range []struct {
		rules       []api.Rule
		of, outside []string
	}{
		{nil, nil, []string{"a/b/c", "1", "a/b/d", "2", "a/e", "3", "ab", "4", "f/g/h/i", "5", "f/g/j", "6", "k", "7"}},
		{[]api.Rule{keep("a")}, []string{"a/b/c", "1", "a/b/d", "2", "a/e", "3"}, []string{"ab", "4", "f/g/h/i", "5", "f/g/j", "6", "k", "7"}},
		{[]api.Rule{keep(""), drop("a"), keep("a/b"), drop("a/b/d"), drop("f/g/h")}, []string{"a/b/c", "1", "ab", "4", "f/g/j", "6", "k", "7"}, []string{"a/b/d", "2", "a/e", "3", "f/g/h/i", "5"}},
		{[]api.Rule{move("", "x/y"), drop("a/b"), drop("f"), drop("ab"), drop("k")}, []string{"x/y/a/e", "3"}, []string{"a/b/c", "1", "a/b/d", "2", "ab", "4", "f/g/h/i", "5", "f/g/j", "6", "k", "7"}},
		{[]api.Rule{move("f/g", "")}, []string{"h/i", "5", "j", "6"}, []string{"a/b/c", "1", "a/b/d", "2", "a/e", "3", "ab", "4", "k", "7"}},
		{[]api.Rule{move("k", "a"), move("a", "k"), move("ab", "z/ab")}, []string{"a", "7", "k/b/c", "1", "k/b/d", "2", "k/e", "3", "z/ab", "4"}, []string{"f/g/h/i", "5", "f/g/j", "6"}},
		{[]api.Rule{move("a/b/c", "x/1"), move("f/g/j", "x/0"), move("f/g/h", "a")}, []string{"a/i", "5", "x/0", "6", "x/1", "1"}, []string{"a/b/d", "2", "a/e", "3", "ab", "4", "k", "7"}},
		{[]api.Rule{keep("a/b/c/d"), keep("z"), move("k/k", "q")}, nil, []string{"a/b/c", "1", "a/b/d", "2", "a/e", "3", "ab", "4", "f/g/h/i", "5", "f/g/j", "6", "k", "7"}},
		{[]api.Rule{keep(""), drop("a/b/c/d"), drop("k/k"), drop("z")}, []string{"a/b/c", "1", "a/b/d", "2", "a/e", "3", "ab", "4", "f/g/h/i", "5", "f/g/j", "6", "k", "7"}, nil},
	} {
		m := mapOf(t, c.rules...)
		wantFiles(t, s, "Of by "+m.Text(), c.of...)(project.Of(s, m, id))
		wantFiles(t, s, "Outside by "+m.Text(), c.outside...)(project.Outside(s, m, id))
		out, _ := project.Outside(s, m, id)
		want(t, "Outside of Outside", out)(project.Outside(s, m, out))
		want(t, "Of of Outside", emptyId())(project.Of(s, m, out))
	}
	want(t, "Of by Trivial", id)(project.Of(s, pathmap.Trivial(), id))
	want(t, "Outside by Trivial", emptyId())(project.Outside(s, pathmap.Trivial(), id))
}

// P15.1, P15.2: a file that would be the root: as an image, and as what one goes back to. A folder may be the root.
func TestRoot(t *testing.T) {
	s, _ := open(t)
	up, down := mapOf(t, move("a", "")), mapOf(t, move("", "a"))
	single, deep := made(t, s, "a", "1", "b", "2"), made(t, s, "a/b", "1", "a/c/d", "2", "z", "3")
	before := s.Len()
	wantErr(t, "Of of a file as the root", api.ErrClash)(project.Of(s, up, single))
	wantSince(t, "Of of a file as the root", s, before)
	wantFiles(t, s, "Outside of a file as the root", "b", "2")(project.Outside(s, up, single))
	wantPairs(t, s, up, single, "a", "")
	wantFiles(t, s, "Of of a folder as the root", "b", "1", "c/d", "2")(project.Of(s, up, deep))
	wantPairs(t, s, up, deep, "a/b", "b", "a/c/d", "c/d")

	file := made(t, s, "a", "1")
	before = s.Len()
	wantErr(t, "Back to the root", api.ErrClash)(project.Back(s, down, deep, file))
	wantErr(t, "Back to the root of the empty tree", api.ErrClash)(project.Back(s, down, made(t, s), file))
	wantSince(t, "Back to the root", s, before, emptyId())
	wantSaid(t, "Inside of what goes back to the root", true)(project.Inside(s, down, file))
	wantErr(t, "a file that is no image goes ahead", api.ErrImage)(project.Back(s, down, deep, single))
	wantFiles(t, s, "Back of a folder to the root", "b", "1", "c/d", "2")(project.Back(s, down, deep, made(t, s, "a/b", "1", "a/c/d", "2")))
	wantFiles(t, s, "Back of the root", "a/x", "4", "z", "3")(project.Back(s, up, deep, made(t, s, "x", "4")))
	wantErr(t, "Back of the root behind a file", api.ErrClash)(project.Back(s, mapOf(t, move("a/b", "")), single, made(t, s, "x", "4")))
}

// P15.1 to P15.3: of the empty tree there is nothing to tell, wherever its root would go, and it is put in where there is nothing else.
func TestEmpty(t *testing.T) {
	for _, m := range []*pathmap.Map{mapOf(t), pathmap.Trivial(), mapOf(t, move("", "x/y")), mapOf(t, move("x/y", "")), mapOf(t, keep("a"), drop("a/b")), mapOf(t, keep(""), drop("a"))} {
		s, _ := open(t)
		empty := made(t, s)
		want(t, "Of of the empty tree", empty)(project.Of(s, m, empty))
		want(t, "Outside of the empty tree", empty)(project.Outside(s, m, empty))
		want(t, "Back of the empty tree", empty)(project.Back(s, m, empty, empty))
		wantSaid(t, "Inside of the empty tree", true)(project.Inside(s, m, empty))
		wantSaid(t, "Alike of the empty tree", true)(project.Alike(s, m, empty, empty))
		wantPairs(t, s, m, empty)
	}
	for what, call := range map[string]func(s *store.Store, id api.Id) (api.Id, api.Errno){
		"Of":      func(s *store.Store, id api.Id) (api.Id, api.Errno) { return project.Of(s, mapOf(t), id) },
		"Outside": func(s *store.Store, id api.Id) (api.Id, api.Errno) { return project.Outside(s, pathmap.Trivial(), id) },
	} {
		s, _ := open(t)
		id := made(t, s, "a/b", "1")
		before := s.Len()
		want(t, what+" of nothing", emptyId())(call(s, id))
		wantSince(t, what+" of nothing", s, before, emptyId())
	}
}

// P15.5: a folder in which no other rule lies is the same one at its image; what is new is put in from below, and nothing else.
func TestShared(t *testing.T) {
	s, d := open(t)
	id := made(t, s, "a/b/c", "1", "a/b/d", "2", "a/e/f", "3", "a/g", "4", "h", "5")
	ab, _ := tree.Find(s, id, "a/b")
	ae, _ := tree.Find(s, id, "a/e")
	m := mapOf(t, move("a", "x/y"), drop("a/e/f"), keep("h/i"))
	before := s.Len()
	of, err := project.Of(s, m, id)
	y := api.Tree{Entries: []api.Entry{folder("b", ab.Id), file("g", digit("4"))}}
	x := api.Tree{Entries: []api.Entry{folder("y", idOf(y))}}
	want(t, "Of", idOf(api.Tree{Entries: []api.Entry{folder("x", idOf(x))}}))(of, err)
	wantSince(t, "Of", s, before, idOf(y), idOf(x), of)
	before = s.Len()
	out, err := project.Outside(s, m, id)
	a := api.Tree{Entries: []api.Entry{ae}}
	want(t, "Outside", idOf(api.Tree{Entries: []api.Entry{folder("a", idOf(a)), file("h", digit("5"))}}))(out, err)
	wantSince(t, "Outside", s, before, idOf(a), out)
	if e, err := tree.Find(s, of, "x/y/b"); err != api.OK || e.Id != ab.Id {
		t.Errorf("a folder that is moved: %v %d", e, err)
	}

	// Once more, and whole folders: nothing is left to put in, on a disk that is cut, too.
	whole := mapOf(t, move("a/b", ""))
	before, writes := s.Len(), d.Writes()
	d.Cut(0)
	want(t, "Of, once more", of)(project.Of(s, m, id))
	want(t, "Outside, once more", out)(project.Outside(s, m, id))
	want(t, "Back of both", id)(project.Back(s, m, out, of))
	want(t, "a folder as the root", ab.Id)(project.Of(s, whole, id))
	want(t, "all of it", id)(project.Of(s, mapOf(t, keep("")), id))
	want(t, "none of it", id)(project.Outside(s, mapOf(t, keep("z/y")), id))
	wantSince(t, "once more", s, before)
	if d.Writes() != writes {
		t.Error("what is there was written again")
	}
}

// P15.1 to P15.3, R4: a store or a map that is nil, ahead of all else; Pairs tells nothing.
func TestNil(t *testing.T) {
	s, _ := open(t)
	id, m := chapterTree(t, s), chapter(t)
	before := s.Len()
	for _, id := range []api.Id{id, missing, 0} {
		for _, c := range []struct {
			s *store.Store
			m *pathmap.Map
		}{{nil, m}, {s, nil}, {nil, nil}} {
			wantErr(t, "Of", api.ErrNil)(project.Of(c.s, c.m, id))
			wantErr(t, "Outside", api.ErrNil)(project.Outside(c.s, c.m, id))
			wantErr(t, "Back", api.ErrNil)(project.Back(c.s, c.m, id, id))
			wantNo(t, "Inside", api.ErrNil)(project.Inside(c.s, c.m, id))
			wantNo(t, "Alike", api.ErrNil)(project.Alike(c.s, c.m, id, id))
			wantPairs(t, c.s, c.m, id)
		}
	}
	wantSince(t, "nil", s, before)
}

// unsound is trees that tree.Sound refuses, each with its error; beside what is wrong stand files of which the chapter's Map speaks.
func unsound(t *testing.T, s *store.Store) map[api.Id]api.Errno {
	t.Helper()
	one := putBlob(t, s, "1")
	src := folder("src", putTree(t, s, file("a", one)))
	made := func(e api.Entry) api.Id { return putTree(t, s, src, e) }
	deep := putTree(t, s, file("a", one))
	for range 16 {
		deep = putTree(t, s, folder("a", deep))
	}
	return map[api.Id]api.Errno{
		0: api.ErrNone, missing: api.ErrNone, one: api.ErrKind,
		put(t, s, api.Commit{Tree: emptyId()}):          api.ErrKind,
		made(file("x", missing)):                        api.ErrNone,
		made(folder("x", missing)):                      api.ErrNone,
		made(file("x", src.Id)):                         api.ErrKind,
		made(folder("x", one)):                          api.ErrKind,
		made(folder("x", putTree(t, s))):                api.ErrBroken,
		made(folder("x", made(folder("y", emptyId())))): api.ErrBroken,
		deep: api.ErrLong,
		putTree(t, s, file("0", one), folder("a", 2), file("b", 0xa7c0d8ee820c7e04)): api.ErrLong, // its own id is 2
	}
}

// P15.1 to P15.3: tree.Sound's error of each tree that is handed in, in their order, whatever the rules say of what is wrong there.
func TestUnsound(t *testing.T) {
	s, _ := open(t)
	id, wrong := chapterTree(t, s), unsound(t, s)
	before := s.Len()
	for _, m := range []*pathmap.Map{chapter(t), mapOf(t), pathmap.Trivial(), mapOf(t, drop("x")), mapOf(t, keep(""), drop("x"))} {
		for bad, asked := range wrong {
			if err := tree.Sound(s, bad); err != asked {
				t.Fatalf("Sound(%x): %d, not %d", bad, err, asked)
			}
			wantErr(t, "Of", asked)(project.Of(s, m, bad))
			wantErr(t, "Outside", asked)(project.Outside(s, m, bad))
			wantNo(t, "Inside", asked)(project.Inside(s, m, bad))
			wantPairs(t, s, m, bad)
			for other, err := range wrong {
				wantErr(t, "Back of two", asked)(project.Back(s, m, bad, other))
				wantNo(t, "Alike of two", asked)(project.Alike(s, m, bad, other))
				wantErr(t, "Back of the second", err)(project.Back(s, m, id, other))
				wantNo(t, "Alike of the second", err)(project.Alike(s, m, id, other))
			}
			wantErr(t, "Back of the first", asked)(project.Back(s, m, bad, id))
			wantNo(t, "Alike of the first", asked)(project.Alike(s, m, bad, id))
		}
	}
	wantSince(t, "unsound", s, before)
}

// P15.1, P15.2: store.Put's error of an id that has other bytes; what puts nothing in is not asked.
func TestCollisions(t *testing.T) {
	s, _ := open(t)
	one := putBlob(t, s, "1")
	id := put(t, s, api.Tree{Entries: []api.Entry{file("x", one), file("y", putBlob(t, s, "2"))}})
	putBlob(t, s, blobLikeX)
	putBlob(t, s, blobLikeEmpty)
	x, y := mapOf(t, keep("x")), mapOf(t, keep("y"))
	before := s.Len()
	wantErr(t, "Of x", api.ErrCollision)(project.Of(s, x, id))
	wantErr(t, "Outside of y", api.ErrCollision)(project.Outside(s, y, id))
	wantErr(t, "Of nothing", api.ErrCollision)(project.Of(s, mapOf(t), id))
	wantErr(t, "Outside of all", api.ErrCollision)(project.Outside(s, pathmap.Trivial(), id))
	wantSince(t, "a collision", s, before)
	wantSaid(t, "Alike", true)(project.Alike(s, x, id, putTree(t, s, file("x", one), file("z", one))))
	wantSaid(t, "Inside", false)(project.Inside(s, x, id))
	base, side := putTree(t, s, file("x", digit("2"))), putTree(t, s, file("a", one))
	wantErr(t, "Back", api.ErrCollision)(project.Back(s, mapOf(t, move("x", "a")), base, side))

	// Here the folder goes in, and its root does not.
	putBlob(t, s, blobLikeAB)
	before = s.Len()
	wantErr(t, "Of a/b", api.ErrCollision)(project.Of(s, mapOf(t, move("x", "a/b")), id))
	wantSince(t, "Of a/b", s, before, idOf(api.Tree{Entries: []api.Entry{file("b", one)}}))
	wantErr(t, "Back to a/b", api.ErrCollision)(project.Back(s, mapOf(t, move("a/b", "a"), keep("x")), base, side))
}
