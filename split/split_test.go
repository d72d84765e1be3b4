package split_test

import (
	"slices"
	"testing"

	"espalier/api"
	"espalier/disk"
	"espalier/object"
	"espalier/pathmap"
	"espalier/split"
	"espalier/store"
	"espalier/tree"
)

func open(t *testing.T) (*store.Store, *disk.Disk) {
	t.Helper()
	d := disk.New()
	return openDisk(t, d), d
}

func openDisk(t *testing.T, d *disk.Disk) *store.Store {
	t.Helper()
	s, err := store.Open(d)
	if err != api.OK {
		t.Fatalf("Open: %d", err)
	}
	return s
}

// put puts in an object that has to go in.
func put(t *testing.T, s *store.Store, o api.Object) api.Id {
	t.Helper()
	id, err := s.Put(o)
	if err != api.OK {
		t.Fatalf("Put(%#v): %d", o, err)
	}
	return id
}

func putBlob(t *testing.T, s *store.Store, text string) api.Id {
	t.Helper()
	return put(t, s, api.Blob{Bytes: []byte(text)})
}

func putTree(t *testing.T, s *store.Store, entries ...api.Entry) api.Id {
	t.Helper()
	return put(t, s, api.Tree{Entries: entries})
}

// idOf is the id of an object that may be.
func idOf(o api.Object) api.Id {
	id, err := object.Of(o)
	if err != api.OK {
		panic("an object that may not be")
	}
	return id
}

// missing is an id that no store of these tests has.
const missing api.Id = 7

func list(ids ...api.Id) []api.Id { return ids }

// files is the files of a tree, told as paths and what stands there.
type files []string

// made is the tree of files.
func made(t *testing.T, s *store.Store, told ...string) api.Id {
	t.Helper()
	var list []api.File
	for k := 0; k < len(told); k += 2 {
		list = append(list, api.File{Path: told[k], Blob: putBlob(t, s, told[k+1])})
	}
	id, err := tree.Of(s, list)
	if err != api.OK {
		t.Fatalf("Of(%v): %d", told, err)
	}
	return id
}

// commitOf is a commit that is told apart by a text.
func commitOf(text string, tree api.Id, parents ...api.Id) api.Commit {
	return api.Commit{Tree: tree, Parents: parents, Author: "by " + text, Date: -int64(len(text)), Text: text}
}

// commit puts in a commit of files.
func commit(t *testing.T, s *store.Store, text string, f files, parents ...api.Id) api.Id {
	t.Helper()
	return put(t, s, commitOf(text, made(t, s, f...), parents...))
}

func keep(from string) api.Rule     { return api.Rule{Kind: api.KeepRule, From: from} }
func drop(from string) api.Rule     { return api.Rule{Kind: api.DropRule, From: from} }
func move(from, to string) api.Rule { return api.Rule{Kind: api.MoveRule, From: from, To: to} }

// mapOf is the Map of rules that may be.
func mapOf(t *testing.T, rules ...api.Rule) *pathmap.Map {
	t.Helper()
	m, fault := pathmap.New(rules)
	if fault != (api.Fault{}) {
		t.Fatalf("New(%v): %v", rules, fault)
	}
	return m
}

// learned is a Known of pairs.
type learned map[api.Id]api.Id

func (l learned) Standin(c api.Id) (api.Id, bool) {
	standin, ok := l[c]
	return standin, ok
}

// host is the history of the chapter's section 'Examples', and what its own commits have to be.
type host struct {
	one, two, three, four, five, six api.Id
	a, b                             api.Id
}

func chapter(t *testing.T, s *store.Store) host {
	t.Helper()
	var h host
	h.one = commit(t, s, "1", files{"b", "1"})
	h.two = commit(t, s, "2", files{"b", "1", "a/x", "1"}, h.one)
	h.three = commit(t, s, "3", files{"b", "2", "a/x", "1"}, h.two)
	h.four = commit(t, s, "4", files{"a/x", "2"}, h.two)
	h.five = commit(t, s, "5", files{"a/x", "2"}, h.three, h.four)
	h.six = commit(t, s, "6", files{"a/x", "2"}, h.four, h.three)
	h.a = idOf(commitOf("2", made(t, s, "a/x", "1")))
	h.b = idOf(commitOf("4", made(t, s, "a/x", "2"), h.a))
	return h
}

func stand(c, standin api.Id, kept bool) api.Standing {
	return api.Standing{Commit: c, Standin: standin, Kept: kept}
}

// wantStep wants Step to answer just that.
func wantStep(t *testing.T, what string, asked api.Standing) func(api.Standing, api.Errno) {
	t.Helper()
	return func(told api.Standing, err api.Errno) {
		t.Helper()
		if told != asked || err != api.OK {
			t.Errorf("%s: %+v %d, not %+v", what, told, err, asked)
		}
	}
}

// wantNoStep wants Step to answer an error, and nothing beside it.
func wantNoStep(t *testing.T, what string, asked api.Errno) func(api.Standing, api.Errno) {
	t.Helper()
	return func(told api.Standing, err api.Errno) {
		t.Helper()
		if told != (api.Standing{}) || err != asked {
			t.Errorf("%s: %+v %d, not error %d", what, told, err, asked)
		}
	}
}

// wantTable wants a call to answer a Table whose new commits stand just so, and hands it on.
func wantTable(t *testing.T, what string, asked ...api.Standing) func(*split.Table, api.Errno) *split.Table {
	t.Helper()
	return func(u *split.Table, err api.Errno) *split.Table {
		t.Helper()
		if u == nil || err != api.OK {
			t.Fatalf("%s: %d", what, err)
		}
		if told := u.All(); !slices.Equal(told, asked) {
			t.Errorf("%s: %+v, not %+v", what, told, asked)
		}
		var pairs []api.Pair
		for _, standing := range asked {
			pairs = append(pairs, api.Pair{From: standing.Commit, To: standing.Standin})
			wantStandin(t, u, standing.Commit, standing.Standin, true)
		}
		if told := u.Pairs(); !slices.Equal(told, pairs) {
			t.Errorf("%s: Pairs: %+v, not %+v", what, told, pairs)
		}
		if n := u.Projected(); n != len(asked) {
			t.Errorf("%s: %d projections, not %d", what, n, len(asked))
		}
		return u
	}
}

// wantNoTable wants a call to answer an error, and no Table.
func wantNoTable(t *testing.T, what string, asked api.Errno) func(*split.Table, api.Errno) {
	t.Helper()
	return func(u *split.Table, err api.Errno) {
		t.Helper()
		if u != nil || err != asked {
			t.Errorf("%s: %+v %d, not error %d", what, u.All(), err, asked)
		}
	}
}

func wantStandin(t *testing.T, k split.Known, c, asked api.Id, known bool) {
	t.Helper()
	if id, ok := k.Standin(c); id != asked || ok != known {
		t.Errorf("Standin(%x): %x %t, not %x %t", c, id, ok, asked, known)
	}
}

func wantHead(t *testing.T, u *split.Table, asked api.Id) {
	t.Helper()
	if id := u.Head(); id != asked {
		t.Errorf("Head: %x, not %x", id, asked)
	}
}

func wantSource(t *testing.T, u *split.Table, standin, asked api.Id, there bool) {
	t.Helper()
	if id, ok := u.Source(standin); id != asked || ok != there {
		t.Errorf("Source(%x): %x %t, not %x %t", standin, id, ok, asked, there)
	}
}

// wantSince wants just these to have been put in behind the first n objects.
func wantSince(t *testing.T, what string, s *store.Store, n int, asked ...api.Id) {
	t.Helper()
	if ids := slices.Collect(s.Since(n)); !slices.Equal(ids, asked) {
		t.Errorf("%s: put in: %x, not %x", what, ids, asked)
	}
}

// wantCommit wants a store to have a commit, as it stands.
func wantCommit(t *testing.T, s *store.Store, id api.Id, asked api.Commit) {
	t.Helper()
	if c, err := s.Commit(id); err != api.OK || !object.Same(c, asked) {
		t.Errorf("%x: %+v %d, not %+v", id, c, err, asked)
	}
}

// P16.1 to P16.3: the rows of the chapter's section 'Examples'.
func TestExamples(t *testing.T) {
	s, _ := open(t)
	h, m := chapter(t, s), mapOf(t, keep("a"))
	u := wantTable(t, "Of 5",
		stand(h.one, 0, false), stand(h.two, h.a, true), stand(h.three, h.a, false), stand(h.four, h.b, true), stand(h.five, h.b, false),
	)(split.Of(s, m, h.five))
	wantHead(t, u, h.b)
	wantSource(t, u, h.a, h.two, true)
	wantSource(t, u, h.b, h.four, true)
	wantStandin(t, u, h.six, 0, false)
	wantCommit(t, s, h.a, commitOf("2", made(t, s, "a/x", "1")))
	wantCommit(t, s, h.b, commitOf("4", made(t, s, "a/x", "2"), h.a))

	v := wantTable(t, "From of 6", stand(h.six, h.b, false))(split.From(s, m, u, h.six))
	wantHead(t, v, h.b)
	wantStandin(t, v, h.one, 0, true)
	wantHead(t, wantTable(t, "From of 5")(split.From(s, m, u, h.five)), h.b)

	wantStep(t, "Step of 1", stand(h.one, 0, false))(split.Step(s, m, h.one))
	wantStep(t, "Step of 4", stand(h.four, h.b, true))(split.Step(s, m, h.four, 0, h.a))
	other := idOf(commitOf("4", made(t, s, "a/x", "2")))
	wantStep(t, "Step of 4 without parents", stand(h.four, other, true))(split.Step(s, m, h.four))
	wantCommit(t, s, other, commitOf("4", made(t, s, "a/x", "2")))

	wantTable(t, "Of 6",
		stand(h.one, 0, false), stand(h.two, h.a, true), stand(h.four, h.b, true), stand(h.three, h.a, false), stand(h.six, h.b, false),
	)(split.Of(s, m, h.six))
}

// P16.1 to P16.3: of what is not there nothing else is asked; a nil Table tells nothing.
func TestNil(t *testing.T) {
	s, _ := open(t)
	h, m := chapter(t, s), mapOf(t, keep("a"))
	before := s.Len()
	for _, head := range list(h.five, missing, 0) {
		wantNoStep(t, "Step without a store", api.ErrNil)(split.Step(nil, m, head, missing))
		wantNoStep(t, "Step without a Map", api.ErrNil)(split.Step(s, nil, head, missing))
		wantNoStep(t, "Step of nothing", api.ErrNil)(split.Step(nil, nil, head))
		wantNoTable(t, "Of without a store", api.ErrNil)(split.Of(nil, m, head))
		wantNoTable(t, "Of without a Map", api.ErrNil)(split.Of(s, nil, head))
		wantNoTable(t, "From without a store", api.ErrNil)(split.From(nil, m, learned{head: 0}, head))
		wantNoTable(t, "From without a Map", api.ErrNil)(split.From(s, nil, learned{head: 0}, head))
	}
	wantSince(t, "nil", s, before)

	var none *split.Table
	for _, id := range list(h.five, missing, 0) {
		wantStandin(t, none, id, 0, false)
		wantSource(t, none, id, 0, false)
	}
	wantHead(t, none, 0)
	if all, pairs, n := none.All(), none.Pairs(), none.Projected(); len(all) != 0 || len(pairs) != 0 || n != 0 {
		t.Errorf("of a nil Table: %v, %v, %d", all, pairs, n)
	}
}
