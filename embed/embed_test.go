package embed_test

import (
	"slices"
	"testing"

	"espalier/api"
	"espalier/disk"
	"espalier/embed"
	"espalier/object"
	"espalier/pathmap"
	"espalier/split"
	"espalier/store"
	"espalier/tree"
)

// missing is an id that no store of these tests has.
const missing api.Id = 7

func keep(from string) api.Rule     { return api.Rule{Kind: api.KeepRule, From: from} }
func drop(from string) api.Rule     { return api.Rule{Kind: api.DropRule, From: from} }
func move(from, to string) api.Rule { return api.Rule{Kind: api.MoveRule, From: from, To: to} }

func list(ids ...api.Id) []api.Id            { return ids }
func pair(from, to api.Id) api.Pair          { return api.Pair{From: from, To: to} }
func pairs(l ...api.Pair) []api.Pair         { return l }
func text(by string) api.Commit              { return api.Commit{Author: "joiner", Date: 9, Text: by} }
func file(name string, id api.Id) api.Entry  { return api.Entry{Name: name, Id: id} }
func under(name string, id api.Id) api.Entry { return api.Entry{Name: name, Folder: true, Id: id} }

// files is the files of a tree, told as paths and what stands there.
type files []string

// learned is a Known of pairs.
type learned map[api.Id]api.Id

func (l learned) Standin(c api.Id) (api.Id, bool) {
	standin, ok := l[c]
	return standin, ok
}

func open(t *testing.T) (*store.Store, *disk.Disk) {
	t.Helper()
	d := disk.New()
	return openDisk(t, d), d
}

func openDisk(t *testing.T, d *disk.Disk) *store.Store {
	t.Helper()
	s, err := store.Open(d)
	if err != api.OK {
		t.Fatalf("Open: %d", err)
	}
	return s
}

// mapOf is the Map of rules that may be.
func mapOf(t *testing.T, rules ...api.Rule) *pathmap.Map {
	t.Helper()
	m, fault := pathmap.New(rules)
	if fault != (api.Fault{}) {
		t.Fatalf("New(%v): %v", rules, fault)
	}
	return m
}

// put puts in an object that has to go in.
func put(t *testing.T, s *store.Store, o api.Object) api.Id {
	t.Helper()
	id, err := s.Put(o)
	if err != api.OK {
		t.Fatalf("Put(%#v): %d", o, err)
	}
	return id
}

func putBlob(t *testing.T, s *store.Store, text string) api.Id {
	t.Helper()
	return put(t, s, api.Blob{Bytes: []byte(text)})
}

func putTree(t *testing.T, s *store.Store, entries ...api.Entry) api.Id {
	t.Helper()
	return put(t, s, api.Tree{Entries: entries})
}

// idOf is the id of an object that may be.
func idOf(o api.Object) api.Id {
	id, err := object.Of(o)
	if err != api.OK {
		panic("an object that may not be")
	}
	return id
}

// made is the tree of files.
func made(t *testing.T, s *store.Store, told ...string) api.Id {
	t.Helper()
	var list []api.File
	for k := 0; k < len(told); k += 2 {
		list = append(list, api.File{Path: told[k], Blob: putBlob(t, s, told[k+1])})
	}
	id, err := tree.Of(s, list)
	if err != api.OK {
		t.Fatalf("Of(%v): %d", told, err)
	}
	return id
}

// commitOf is a commit that is told apart by a text.
func commitOf(text string, tree api.Id, parents ...api.Id) api.Commit {
	return api.Commit{Tree: tree, Parents: parents, Author: "by " + text, Date: -int64(len(text)), Text: text}
}

// commit puts in a commit of files.
func commit(t *testing.T, s *store.Store, text string, f files, parents ...api.Id) api.Id {
	t.Helper()
	return put(t, s, commitOf(text, made(t, s, f...), parents...))
}

// ownOf is the id of a commit that carries what another one says, with another tree and other parents.
func ownOf(t *testing.T, s *store.Store, c, tree api.Id, parents ...api.Id) api.Id {
	t.Helper()
	own, err := s.Commit(c)
	if err != api.OK {
		t.Fatalf("%x is no commit: %d", c, err)
	}
	own.Tree, own.Parents = tree, parents
	return idOf(own)
}

// wantCommit wants a store to have a commit, as it stands.
func wantCommit(t *testing.T, s *store.Store, id api.Id, asked api.Commit) {
	t.Helper()
	if c, err := s.Commit(id); err != api.OK || !object.Same(c, asked) {
		t.Errorf("%x: %+v %d, not %+v", id, c, err, asked)
	}
}

func wantErr(t *testing.T, what string, asked, err api.Errno) {
	t.Helper()
	if err != asked {
		t.Errorf("%s: %d, not %d", what, err, asked)
	}
}

// wantPlaces wants Places to answer just that.
func wantPlaces(t *testing.T, what string, asked ...api.Pair) func([]api.Pair, api.Errno) {
	t.Helper()
	slices.SortFunc(asked, func(a, b api.Pair) int {
		if a.From < b.From {
			return -1
		}
		return 1
	})
	return func(told []api.Pair, err api.Errno) {
		t.Helper()
		if !slices.Equal(told, asked) || err != api.OK {
			t.Errorf("%s: %d %x %d, not %d %x", what, len(told), told[:min(9, len(told))], err, len(asked), asked[:min(9, len(asked))])
		}
	}
}

// wantNoPlaces wants Places to answer an error, and nothing beside it.
func wantNoPlaces(t *testing.T, what string, asked api.Errno) func([]api.Pair, api.Errno) {
	t.Helper()
	return func(told []api.Pair, err api.Errno) {
		t.Helper()
		if len(told) != 0 || err != asked {
			t.Errorf("%s: %x %d, not error %d", what, told, err, asked)
		}
	}
}

// wantJoined wants Join to answer just that.
func wantJoined(t *testing.T, what string, asked api.Joined) func(api.Joined, api.Errno) {
	t.Helper()
	return func(told api.Joined, err api.Errno) {
		t.Helper()
		if err != api.OK || told.Head != asked.Head || told.Merge != asked.Merge || !slices.Equal(told.Made, asked.Made) {
			t.Errorf("%s: %x %d, not %x", what, told, err, asked)
		}
	}
}

// wantNotJoined wants Join to answer an error, and nothing beside it.
func wantNotJoined(t *testing.T, what string, asked api.Errno) func(api.Joined, api.Errno) {
	t.Helper()
	return func(told api.Joined, err api.Errno) {
		t.Helper()
		if err != asked || told.Head != 0 || told.Merge != 0 || len(told.Made) != 0 {
			t.Errorf("%s: %x %d, not error %d", what, told, err, asked)
		}
	}
}

// wantCarved wants what is carved from a head to be a side, and what is carved from each commit that was made the one for which it was made.
func wantCarved(t *testing.T, s *store.Store, m *pathmap.Map, head, side api.Id, made ...api.Pair) {
	t.Helper()
	u, err := split.Of(s, m, head)
	if err != api.OK || u.Head() != side {
		t.Errorf("carved from %x: %x %d, not %x", head, u.Head(), err, side)
		return
	}
	for _, p := range made {
		if standin, ok := u.Standin(p.To); standin != p.From || !ok {
			t.Errorf("%x stands in for %x, which was made for %x", standin, p.To, p.From)
		}
	}
}

// P20.1 to P20.4: the rows of the chapter's section 'Examples'.
func TestExamples(t *testing.T) {
	s, _ := open(t)
	m, by := mapOf(t, move("lib", "")), text("join")
	h := commit(t, s, "h", files{"b", "1"})
	one := commit(t, s, "1", files{"x", "1"})
	two := commit(t, s, "2", files{"x", "2"}, one)
	wantErr(t, "Proper", api.OK, embed.Proper(s, m, two))
	wantErr(t, "Proper of the same tree", api.ErrImproper, embed.Proper(s, m, commit(t, s, "same", files{"x", "2"}, two)))
	wantErr(t, "Proper of the empty tree", api.ErrImproper, embed.Proper(s, m, commit(t, s, "empty", nil)))
	wantPlaces(t, "H")(embed.Places(s, m, nil, h))
	wantPlaces(t, "none")(embed.Places(s, m, nil, 0))

	first := commitOf("1", made(t, s, "lib/x", "1"))
	second := commitOf("2", made(t, s, "lib/x", "2"), idOf(first))
	both := pairs(pair(one, idOf(first)), pair(two, idOf(second)))
	wantJoined(t, "into none", api.Joined{Head: idOf(second), Made: both})(embed.Join(s, m, nil, 0, two, by))
	wantCommit(t, s, idOf(first), first)
	wantCommit(t, s, idOf(second), second)
	wantCarved(t, s, m, idOf(second), two, both...)

	merge := text("join")
	merge.Tree, merge.Parents = made(t, s, "b", "1", "lib/x", "2"), list(h, idOf(second))
	wantJoined(t, "into H", api.Joined{Head: idOf(merge), Made: both, Merge: idOf(merge)})(embed.Join(s, m, nil, h, two, by))
	wantCommit(t, s, idOf(merge), merge)
	wantCarved(t, s, m, idOf(merge), two, both...)
	wantPlaces(t, "behind it", pair(one, idOf(first)), pair(two, idOf(merge)))(embed.Places(s, m, nil, idOf(merge)))
	wantJoined(t, "once more", api.Joined{Head: idOf(merge)})(embed.Join(s, m, nil, idOf(merge), two, by))

	three := commit(t, s, "3", files{"x", "3"}, two)
	third := commitOf("3", made(t, s, "b", "1", "lib/x", "3"), idOf(merge))
	wantJoined(t, "S3", api.Joined{Head: idOf(third), Made: pairs(pair(three, idOf(third)))})(embed.Join(s, m, nil, idOf(merge), three, by))
	wantCommit(t, s, idOf(third), third)
	wantCarved(t, s, m, idOf(third), three, pair(three, idOf(third)))
	wantNotJoined(t, "S2 once more", api.ErrParted)(embed.Join(s, m, nil, idOf(third), two, by))
}

// P20.1 to P20.3: of what is not there nothing else is asked.
func TestNil(t *testing.T) {
	s, _ := open(t)
	m, wrong := pathmap.Trivial(), api.Commit{Author: "\xff"}
	c := commit(t, s, "c", files{"x", "1"})
	before := s.Len()
	for _, id := range list(c, missing, 0) {
		wantErr(t, "Proper without a store", api.ErrNil, embed.Proper(nil, m, id))
		wantErr(t, "Proper without a Map", api.ErrNil, embed.Proper(s, nil, id))
		wantErr(t, "Proper of nothing", api.ErrNil, embed.Proper(nil, nil, id))
		for _, k := range []split.Known{nil, learned{c: c}} {
			wantNoPlaces(t, "Places without a store", api.ErrNil)(embed.Places(nil, m, k, id))
			wantNoPlaces(t, "Places without a Map", api.ErrNil)(embed.Places(s, nil, k, id))
			wantNoPlaces(t, "Places of nothing", api.ErrNil)(embed.Places(nil, nil, k, id))
			wantNotJoined(t, "Join without a store", api.ErrNil)(embed.Join(nil, m, k, id, missing, wrong))
			wantNotJoined(t, "Join without a Map", api.ErrNil)(embed.Join(s, nil, k, id, missing, wrong))
			wantNotJoined(t, "Join of nothing", api.ErrNil)(embed.Join(nil, nil, k, id, missing, wrong))
		}
	}
	if s.Len() != before {
		t.Error("something is put in")
	}
	wantErr(t, "Proper", api.OK, embed.Proper(s, m, c))
}
