package graph_test

import (
	"slices"
	"testing"

	"espalier/api"
	"espalier/disk"
	"espalier/graph"
	"espalier/object"
	"espalier/store"
)

func open(t *testing.T) (*store.Store, *disk.Disk) {
	t.Helper()
	d := disk.New()
	return openDisk(t, d), d
}

func openDisk(t *testing.T, d *disk.Disk) *store.Store {
	t.Helper()
	s, err := store.Open(d)
	if err != api.OK {
		t.Fatalf("Open: %d", err)
	}
	return s
}

// keep puts in an object that has to go in.
func keep(t *testing.T, s *store.Store, o api.Object) api.Id {
	t.Helper()
	id, err := s.Put(o)
	if err != api.OK {
		t.Fatalf("Put(%#v): %d", o, err)
	}
	return id
}

func keepBlob(t *testing.T, s *store.Store, text string) api.Id {
	t.Helper()
	return keep(t, s, api.Blob{Bytes: []byte(text)})
}

func keepTree(t *testing.T, s *store.Store, entries ...api.Entry) api.Id {
	t.Helper()
	return keep(t, s, api.Tree{Entries: entries})
}

func file(name string, id api.Id) api.Entry   { return api.Entry{Name: name, Id: id} }
func folder(name string, id api.Id) api.Entry { return api.Entry{Name: name, Folder: true, Id: id} }

// bare puts in a commit with the empty tree.
func bare(t *testing.T, s *store.Store, text string, parents ...api.Id) api.Id {
	t.Helper()
	return of(t, s, text, keepTree(t, s), parents...)
}

// of puts in a commit of a tree, whether that is there or not.
func of(t *testing.T, s *store.Store, text string, tree api.Id, parents ...api.Id) api.Id {
	t.Helper()
	return keep(t, s, api.Commit{Tree: tree, Parents: parents, Text: text})
}

// idOf is the id of an object that may be.
func idOf(o api.Object) api.Id {
	id, err := object.Of(o)
	if err != api.OK {
		panic("an object that may not be")
	}
	return id
}

// missing is an id that no store of these tests has.
const missing api.Id = 7

func list(ids ...api.Id) []api.Id { return ids }

// want wants a call to answer just these ids.
func want(t *testing.T, what string, asked ...api.Id) func(ids []api.Id, err api.Errno) {
	t.Helper()
	return func(ids []api.Id, err api.Errno) {
		t.Helper()
		if !slices.Equal(ids, asked) || err != api.OK {
			t.Errorf("%s: %x %d, not %x", what, ids, err, asked)
		}
	}
}

// wantErr wants a call to answer an error, and no ids.
func wantErr(t *testing.T, what string, asked api.Errno) func(ids []api.Id, err api.Errno) {
	t.Helper()
	return func(ids []api.Id, err api.Errno) {
		t.Helper()
		if len(ids) != 0 || err != asked {
			t.Errorf("%s: %x %d, not error %d", what, ids, err, asked)
		}
	}
}

func wantAncestor(t *testing.T, s *store.Store, a, b api.Id, asked bool) {
	t.Helper()
	if yes, err := graph.Ancestor(s, a, b); yes != asked || err != api.OK {
		t.Errorf("Ancestor(%x, %x): %t %d, not %t", a, b, yes, err, asked)
	}
}

func wantDepth(t *testing.T, s *store.Store, c api.Id, asked int) {
	t.Helper()
	if n, err := graph.Depth(s, c); n != asked || err != api.OK {
		t.Errorf("Depth(%x): %d %d, not %d", c, n, err, asked)
	}
}

func wantLines(t *testing.T, s *store.Store, a, b api.Id, asked int) {
	t.Helper()
	if n, err := graph.Lines(s, a, b); n != asked || err != api.OK {
		t.Errorf("Lines(%x, %x): %d %d, not %d", a, b, n, err, asked)
	}
}

func wantWhole(t *testing.T, s *store.Store, c api.Id, asked api.Errno) {
	t.Helper()
	if err := graph.Whole(s, c); err != asked {
		t.Errorf("Whole(%x): %d, not %d", c, err, asked)
	}
}

// wantRefused wants all calls of two commits to answer Order's error of these, and zeros beside it.
func wantRefused(t *testing.T, s *store.Store, a, b api.Id, asked api.Errno) {
	t.Helper()
	wantErr(t, "Order", asked)(graph.Order(s, a, b))
	wantErr(t, "Roots", asked)(graph.Roots(s, a, b))
	wantErr(t, "Reach", asked)(graph.Reach(s, a, b))
	wantErr(t, "Between", asked)(graph.Between(s, list(a, b), nil))
	wantErr(t, "Between", asked)(graph.Between(s, list(a), list(b)))
	wantErr(t, "Between", asked)(graph.Between(s, nil, list(a, b)))
	if yes, err := graph.Ancestor(s, a, b); yes || err != asked {
		t.Errorf("Ancestor(%x, %x): %t %d, not error %d", a, b, yes, err, asked)
	}
	if n, err := graph.Lines(s, a, b); n != 0 || err != asked {
		t.Errorf("Lines(%x, %x): %d %d, not error %d", a, b, n, err, asked)
	}
}

// wantRefusedOne is wantRefused for the calls of one commit, too.
func wantRefusedOne(t *testing.T, s *store.Store, c api.Id, asked api.Errno) {
	t.Helper()
	wantRefused(t, s, c, c, asked)
	wantErr(t, "Order", asked)(graph.Order(s, c))
	wantWhole(t, s, c, asked)
	if n, err := graph.Depth(s, c); n != 0 || err != asked {
		t.Errorf("Depth(%x): %d %d, not error %d", c, n, err, asked)
	}
}

// five puts in the commits of the chapter's examples: A without parents, B and C of A, D of B and C, E of D and A.
func five(t *testing.T, s *store.Store) (a, b, c, d, e api.Id) {
	t.Helper()
	a = bare(t, s, "a")
	b, c = bare(t, s, "b", a), bare(t, s, "c", a)
	d = bare(t, s, "d", b, c)
	return a, b, c, d, bare(t, s, "e", d, a)
}

// P11.1 to P11.4: the chapter's rows.
func TestExamples(t *testing.T) {
	s, _ := open(t)
	a, b, c, d, e := five(t, s)
	want(t, "Order(D)", a, b, c, d)(graph.Order(s, d))
	want(t, "Order(C, D)", a, c, b, d)(graph.Order(s, c, d))
	want(t, "Order()")(graph.Order(s))
	wantAncestor(t, s, a, d, true)
	wantAncestor(t, s, b, c, false)
	wantAncestor(t, s, d, d, true)
	want(t, "Between((B), (D))", c, d)(graph.Between(s, list(b), list(d)))
	want(t, "Between((D), (B))")(graph.Between(s, list(d), list(b)))
	wantDepth(t, s, a, 1)
	wantDepth(t, s, e, 4)
	wantLines(t, s, a, e, 3)
	wantLines(t, s, b, c, 0)
	reach := list(a, keepTree(t, s))
	slices.Sort(reach)
	want(t, "Reach(A)", reach...)(graph.Reach(s, a))
	wantWhole(t, s, of(t, s, "lost", missing), api.ErrNone)
	wantErr(t, "Order of a blob", api.ErrKind)(graph.Order(s, keepBlob(t, s, "1")))
	wantErr(t, "Order of 7", api.ErrNone)(graph.Order(s, 7))
}

// P11.1: heads and parents stand in the order in which they were told, each commit once.
func TestOrder(t *testing.T) {
	s, _ := open(t)
	a, b, c, d, e := five(t, s)
	want(t, "Order(E)", a, b, c, d, e)(graph.Order(s, e))
	want(t, "Order(E, D, A, E)", a, b, c, d, e)(graph.Order(s, e, d, a, e))
	want(t, "Order(A, A)", a)(graph.Order(s, a, a))
	z := bare(t, s, "z")
	want(t, "Order(Z, B)", z, a, b)(graph.Order(s, z, b))
	want(t, "Order(B, Z)", a, b, z)(graph.Order(s, b, z))
	turned := bare(t, s, "turned", c, b)
	want(t, "Order(turned)", a, c, b, turned)(graph.Order(s, turned))
	twice := bare(t, s, "twice", z, b, z, b)
	want(t, "Order(twice)", z, a, b, twice)(graph.Order(s, twice))
	// A parent that is deep stands behind all its own, and ahead of the next one.
	deep := bare(t, s, "deep", e, z, turned)
	want(t, "Order(deep)", a, b, c, d, e, z, turned, deep)(graph.Order(s, deep))
	var many []api.Id
	for k := range 8 {
		many = append(many, bare(t, s, string([]byte{'0' + byte(7-k)})))
	}
	all := bare(t, s, "all", many...)
	want(t, "Order(all)", append(slices.Clone(many), all)...)(graph.Order(s, all))
}

// P11.1: what an id must be, as a head and as a parent; the tree of a commit is not read.
func TestKinds(t *testing.T) {
	s, _ := open(t)
	a := bare(t, s, "a")
	lost := of(t, s, "lost", missing, a)
	want(t, "Order(lost)", a, lost)(graph.Order(s, lost))
	want(t, "Roots(lost)", a)(graph.Roots(s, lost))
	want(t, "Between", lost)(graph.Between(s, list(a), list(lost)))
	wantDepth(t, s, lost, 2)
	wantLines(t, s, a, lost, 1)
	for wrong, asked := range map[api.Id]api.Errno{
		missing: api.ErrNone, 1 << 63: api.ErrNone,
		keepBlob(t, s, "1"): api.ErrKind, keepTree(t, s): api.ErrKind,
	} {
		wantRefusedOne(t, s, wrong, asked)
		wantRefused(t, s, a, wrong, asked)
		wantRefused(t, s, wrong, a, asked)
		child := bare(t, s, "child", wrong)
		wantRefusedOne(t, s, child, asked)
		wantRefusedOne(t, s, bare(t, s, "behind", a, child), asked)
		wantRefusedOne(t, s, bare(t, s, "ahead", child, a), asked)
	}
	wantRefusedOne(t, s, 0, api.ErrNone)
}

// P11.1 to P11.3: the first that is met is told, however the other one is wrong.
func TestFirstIsTold(t *testing.T) {
	s, _ := open(t)
	blob, a := keepBlob(t, s, "1"), bare(t, s, "a")
	ofNone, ofBlob := bare(t, s, "n", a, missing), bare(t, s, "b", a, blob)
	wrong := []struct {
		id    api.Id
		asked api.Errno
	}{{missing, api.ErrNone}, {blob, api.ErrKind}, {ofNone, api.ErrNone}, {ofBlob, api.ErrKind}, {selfRing(t, s), api.ErrRing}, {twoRing(t, s), api.ErrRing}}
	for _, one := range wrong {
		for _, other := range wrong {
			wantRefused(t, s, one.id, other.id, one.asked)
			wantRefusedOne(t, s, bare(t, s, "both", one.id, other.id), one.asked)
			inner := bare(t, s, "inner", a, one.id)
			wantRefusedOne(t, s, bare(t, s, "outer", a, inner, other.id), one.asked)
			wantRefused(t, s, inner, other.id, one.asked)
		}
	}
	// have is gone through ahead of want, to its end.
	wantErr(t, "Between", api.ErrKind)(graph.Between(s, list(a, ofBlob), list(ofNone)))
	wantErr(t, "Between", api.ErrNone)(graph.Between(s, list(a, ofNone), list(blob)))
	wantErr(t, "Between", api.ErrKind)(graph.Between(s, list(a), list(a, ofBlob, ofNone)))
}

// P11.2: what a list of have takes away, and in which order the others are left.
func TestBetween(t *testing.T) {
	s, _ := open(t)
	a, b, c, d, e := five(t, s)
	z := bare(t, s, "z")
	y := bare(t, s, "y", z, c, b)
	want(t, "none, (E)", a, b, c, d, e)(graph.Between(s, nil, list(e)))
	want(t, "none, none")(graph.Between(s, nil, nil))
	want(t, "(E), none")(graph.Between(s, list(e), nil))
	want(t, "(E), (E)")(graph.Between(s, list(e), list(e)))
	want(t, "(Z), (C, D)", a, c, b, d)(graph.Between(s, list(z), list(c, d)))
	want(t, "(B), (C, D)", c, d)(graph.Between(s, list(b), list(c, d)))
	want(t, "(B, C), (E, Y)", d, e, z, y)(graph.Between(s, list(b, c), list(e, y)))
	want(t, "(A), (Y, E)", z, c, b, y, d, e)(graph.Between(s, list(a), list(y, e)))
	want(t, "(C, B), (Y)", z, y)(graph.Between(s, list(c, b), list(y)))
	want(t, "(D), (Y, Y)", z, y)(graph.Between(s, list(d), list(y, y)))
}

// P11.2: the roots of all heads, in their order, each once.
func TestRoots(t *testing.T) {
	s, _ := open(t)
	a, b, _, d, e := five(t, s)
	z := bare(t, s, "z")
	want(t, "Roots()")(graph.Roots(s))
	want(t, "Roots(A)", a)(graph.Roots(s, a))
	want(t, "Roots(E, D)", a)(graph.Roots(s, e, d))
	want(t, "Roots(Z, E)", z, a)(graph.Roots(s, z, e))
	want(t, "Roots(B, Z, A)", a, z)(graph.Roots(s, b, z, a))
	want(t, "Roots of both", z, a)(graph.Roots(s, bare(t, s, "both", z, d)))
}

// P11.2: of two commits, and of some that have nothing in common.
func TestAncestor(t *testing.T) {
	s, _ := open(t)
	a, b, c, d, e := five(t, s)
	z := bare(t, s, "z")
	ids := list(a, b, c, d, e, z)
	ancestors := map[api.Id][]api.Id{a: {a}, b: {a, b}, c: {a, c}, d: {a, b, c, d}, e: {a, b, c, d, e}, z: {z}}
	for _, one := range ids {
		for _, other := range ids {
			wantAncestor(t, s, one, other, slices.Contains(ancestors[other], one))
		}
	}
}

// R4: where there is no store, ahead of all else.
func TestNoStore(t *testing.T) {
	for _, id := range list(0, 1, missing) {
		wantRefusedOne(t, nil, id, api.ErrNil)
	}
	wantErr(t, "Order", api.ErrNil)(graph.Order(nil))
	wantErr(t, "Roots", api.ErrNil)(graph.Roots(nil))
	wantErr(t, "Reach", api.ErrNil)(graph.Reach(nil))
	wantErr(t, "Between", api.ErrNil)(graph.Between(nil, nil, nil))
}

// A store without objects has the history of no heads, and no other one.
func TestEmptyStore(t *testing.T) {
	s, _ := open(t)
	want(t, "Order")(graph.Order(s))
	want(t, "Roots")(graph.Roots(s))
	want(t, "Reach")(graph.Reach(s))
	want(t, "Between")(graph.Between(s, nil, nil))
	wantRefusedOne(t, s, 1, api.ErrNone)
}

// R3: lists that are handed in stay as they are, the room behind their ends, too.
func TestHandedIn(t *testing.T) {
	s, _ := open(t)
	a, b, c, d, e := five(t, s)
	room := list(d, c, 1, 2, 3, 4, 5, 6, 1, 2, 3, 4, 5, 6)
	heads := room[:2]
	other := list(e, b, 9, 9, 9)
	was, wasOther := slices.Clone(room), slices.Clone(other)
	want(t, "Order", a, b, c, d)(graph.Order(s, heads...))
	want(t, "Roots", a)(graph.Roots(s, heads...))
	if l, err := graph.Reach(s, heads...); len(l) != 5 || err != api.OK {
		t.Errorf("Reach: %x %d", l, err)
	}
	want(t, "Between", e)(graph.Between(s, heads, other[:2]))
	want(t, "Between")(graph.Between(s, other[:2], heads))
	wantErr(t, "Between", api.ErrNone)(graph.Between(s, heads, other))
	wantErr(t, "Reach", api.ErrNone)(graph.Reach(s, room...))
	if !slices.Equal(room, was) || !slices.Equal(other, wasOther) {
		t.Errorf("what was handed in is now %x, %x", room, other)
	}
}

// R3: what is answered is new memory, so that whoever changes it changes nothing else.
func TestAnswered(t *testing.T) {
	s, _ := open(t)
	a, b, c, d, _ := five(t, s)
	heads := list(d)
	for _, call := range []func() ([]api.Id, api.Errno){
		func() ([]api.Id, api.Errno) { return graph.Order(s, heads...) },
		func() ([]api.Id, api.Errno) { return graph.Roots(s, heads...) },
		func() ([]api.Id, api.Errno) { return graph.Reach(s, heads...) },
		func() ([]api.Id, api.Errno) { return graph.Between(s, nil, heads) },
	} {
		first, err := call()
		if err != api.OK {
			t.Fatal(err)
		}
		was := slices.Clone(first)
		whole := first[:cap(first)]
		for k := range whole {
			whole[k] = missing
		}
		want(t, "again", was...)(call())
	}
	want(t, "Order", a, b, c, d)(graph.Order(s, heads...))
}

// Calls put nothing in, whatever they answer; behind each Open they answer the same.
func TestNothingIsPutIn(t *testing.T) {
	s, d := open(t)
	a, b, c, x, e := five(t, s)
	ring := selfRing(t, s)
	objects, writes := s.Len(), d.Writes()
	for range 2 {
		want(t, "Order", a, c, b, x, e)(graph.Order(s, c, e))
		wantLines(t, s, a, e, 3)
		wantDepth(t, s, e, 4)
		wantWhole(t, s, e, api.OK)
		wantRefusedOne(t, s, ring, api.ErrRing)
		if l, err := graph.Reach(s, e); len(l) != 6 || err != api.OK {
			t.Errorf("Reach: %x %d", l, err)
		}
		if s.Len() != objects || d.Writes() != writes {
			t.Errorf("%d objects, %d writes, not %d, %d", s.Len(), d.Writes(), objects, writes)
		}
		s = openDisk(t, d)
	}
}
