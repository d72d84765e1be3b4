package parents_test

import (
	"slices"
	"strconv"
	"testing"

	"espalier/api"
	"espalier/disk"
	"espalier/parents"
	"espalier/store"
)

func open(t *testing.T) (*store.Store, *disk.Disk) {
	t.Helper()
	d := disk.New()
	return openDisk(t, d), d
}

func openDisk(t *testing.T, d *disk.Disk) *store.Store {
	t.Helper()
	s, err := store.Open(d)
	if err != api.OK {
		t.Fatalf("Open: %d", err)
	}
	return s
}

// keep puts in an object that has to go in.
func keep(t *testing.T, s *store.Store, o api.Object) api.Id {
	t.Helper()
	id, err := s.Put(o)
	if err != api.OK {
		t.Fatalf("Put(%#v): %d", o, err)
	}
	return id
}

func keepBlob(t *testing.T, s *store.Store, text string) api.Id {
	t.Helper()
	return keep(t, s, api.Blob{Bytes: []byte(text)})
}

func keepTree(t *testing.T, s *store.Store) api.Id {
	t.Helper()
	return keep(t, s, api.Tree{})
}

// bare puts in a commit with the empty tree.
func bare(t *testing.T, s *store.Store, text string, from ...api.Id) api.Id {
	t.Helper()
	return keep(t, s, api.Commit{Tree: keepTree(t, s), Parents: from, Text: text})
}

// missing is an id that no store of these tests has.
const missing api.Id = 7

func list(ids ...api.Id) []api.Id { return ids }

// want wants a call to answer just these ids.
func want(t *testing.T, what string, asked ...api.Id) func(ids []api.Id, err api.Errno) {
	t.Helper()
	return func(ids []api.Id, err api.Errno) {
		t.Helper()
		if !slices.Equal(ids, asked) || err != api.OK {
			t.Errorf("%s: %x %d, not %x", what, ids, err, asked)
		}
	}
}

// wantErr wants a call to answer an error, and no ids.
func wantErr(t *testing.T, what string, asked api.Errno) func(ids []api.Id, err api.Errno) {
	t.Helper()
	return func(ids []api.Id, err api.Errno) {
		t.Helper()
		if len(ids) != 0 || err != asked {
			t.Errorf("%s: %x %d, not error %d", what, ids, err, asked)
		}
	}
}

// wantReduce wants a list to be reduced to another one, and Reduced to tell whether they are the same.
func wantReduce(t *testing.T, s *store.Store, l []api.Id, asked ...api.Id) {
	t.Helper()
	want(t, "Reduce", asked...)(parents.Reduce(s, l...))
	if is, err := parents.Reduced(s, l...); is != slices.Equal(l, asked) || err != api.OK {
		t.Errorf("Reduced(%x): %t %d", l, is, err)
	}
}

// wantBases wants two commits to have just these bases, and the last one as their Base.
func wantBases(t *testing.T, s *store.Store, a, b api.Id, asked ...api.Id) {
	t.Helper()
	want(t, "Bases", asked...)(parents.Bases(s, a, b))
	last, lastErr := api.Id(0), api.ErrNone
	if len(asked) > 0 {
		last, lastErr = asked[len(asked)-1], api.OK
	}
	if id, err := parents.Base(s, a, b); id != last || err != lastErr {
		t.Errorf("Base(%x, %x): %x %d, not %x %d", a, b, id, err, last, lastErr)
	}
}

func wantApart(t *testing.T, s *store.Store, a, b api.Id, ahead, behind int) {
	t.Helper()
	if n, m, err := parents.Apart(s, a, b); n != ahead || m != behind || err != api.OK {
		t.Errorf("Apart(%x, %x): %d %d %d, not %d %d", a, b, n, m, err, ahead, behind)
	}
}

func wantRelation(t *testing.T, s *store.Store, a, b api.Id, asked int) {
	t.Helper()
	if kind, err := parents.Relation(s, a, b); kind != asked || err != api.OK {
		t.Errorf("Relation(%x, %x): %d %d, not %d", a, b, kind, err, asked)
	}
}

// wantRefused wants all calls of two commits to answer an error, and zeros beside it.
func wantRefused(t *testing.T, s *store.Store, a, b api.Id, asked api.Errno) {
	t.Helper()
	wantErr(t, "Bases", asked)(parents.Bases(s, a, b))
	if id, err := parents.Base(s, a, b); id != 0 || err != asked {
		t.Errorf("Base(%x, %x): %x %d, not error %d", a, b, id, err, asked)
	}
	if n, m, err := parents.Apart(s, a, b); n != 0 || m != 0 || err != asked {
		t.Errorf("Apart(%x, %x): %d %d %d, not error %d", a, b, n, m, err, asked)
	}
	if kind, err := parents.Relation(s, a, b); kind != api.RelNone || err != asked {
		t.Errorf("Relation(%x, %x): %d %d, not error %d", a, b, kind, err, asked)
	}
	wantRefusedList(t, s, list(a, b), asked)
}

// wantRefusedList is wantRefused for the calls of a list.
func wantRefusedList(t *testing.T, s *store.Store, l []api.Id, asked api.Errno) {
	t.Helper()
	wantErr(t, "Reduce", asked)(parents.Reduce(s, l...))
	if is, err := parents.Reduced(s, l...); is || err != asked {
		t.Errorf("Reduced(%x): %t %d, not error %d", l, is, err, asked)
	}
}

// six puts in the commits of the chapter's examples: A without parents, B and C of A, D of B and C, E of A; Z without parents.
func six(t *testing.T, s *store.Store) (a, b, c, d, e, z api.Id) {
	t.Helper()
	a = bare(t, s, "a")
	b, c = bare(t, s, "b", a), bare(t, s, "c", a)
	return a, b, c, bare(t, s, "d", b, c), bare(t, s, "e", a), bare(t, s, "z")
}

// P12.1 to P12.3: the chapter's rows.
func TestExamples(t *testing.T) {
	s, _ := open(t)
	a, b, c, d, e, z := six(t, s)
	wantReduce(t, s, list(b, a, c, b), b, c)
	wantReduce(t, s, list(d, b, a), d)
	wantReduce(t, s, nil)
	wantReduce(t, s, list(a, z), a, z)
	wantReduce(t, s, list(b, c), b, c)
	wantReduce(t, s, list(b, a), b)
	wantReduce(t, s, list(b, b), b)
	wantBases(t, s, b, c, a)
	wantBases(t, s, d, b, b)
	wantBases(t, s, d, e, a)
	wantBases(t, s, a, z)
	wantApart(t, s, d, e, 3, 1)
	wantApart(t, s, b, b, 0, 0)
	wantApart(t, s, a, d, 0, 3)
	wantRelation(t, s, b, b, 1)
	wantRelation(t, s, d, a, 2)
	wantRelation(t, s, a, d, 3)
	wantRelation(t, s, d, e, 4)
	wantRelation(t, s, a, z, 5)
}

// P12.1: what is left stands in its order, by the first place of each.
func TestReduce(t *testing.T) {
	s, _ := open(t)
	a, b, c, d, e, z := six(t, s)
	wantReduce(t, s, list(a), a)
	wantReduce(t, s, list(c, b), c, b)
	wantReduce(t, s, list(z, e, c, b), z, e, c, b)
	wantReduce(t, s, list(e, z, d), e, z, d)
	wantReduce(t, s, list(a, a, a), a)
	wantReduce(t, s, list(c, z, c, e, z, e, c), c, z, e)
	// Ancestors go, whether they stand ahead or behind, near or far, once or more often.
	wantReduce(t, s, list(a, b), b)
	wantReduce(t, s, list(a, d), d)
	wantReduce(t, s, list(d, a), d)
	wantReduce(t, s, list(b, e, d, c, a, b), e, d)
	wantReduce(t, s, list(a, z, a, e, a), z, e)
	wantReduce(t, s, list(a, e, d, e, a), e, d)
	// One that stands twice is no proper ancestor of itself.
	wantReduce(t, s, list(d, z, d), d, z)
	// An ancestor of one that goes itself.
	wantReduce(t, s, list(a, b, d), d)
	f := bare(t, s, "f", a, z, z, a)
	wantReduce(t, s, list(z, f, a), f)
	wantReduce(t, s, list(f, d, e), f, d, e)
}

// P12.1: a list may be longer than a number has bits, and each of it counts.
func TestLongLists(t *testing.T) {
	s, _ := open(t)
	root := bare(t, s, "root")
	var all []api.Id
	for k := range 300 {
		all = append(all, bare(t, s, strconv.Itoa(k), root))
	}
	for _, n := range []int{7, 8, 9, 15, 16, 17, 31, 32, 33, 62, 63, 64, 65, 66, 127, 128, 129, 255, 256, 257, 300} {
		l := all[:n]
		wantReduce(t, s, l, l...)
		wantReduce(t, s, slices.Concat(l, l), l...)
		wantReduce(t, s, slices.Concat(list(root), l, list(root)), l...)
		child := bare(t, s, "child", l[n-1])
		wantReduce(t, s, slices.Concat(l, list(child)), slices.Concat(l[:n-1], list(child))...)
		wantReduce(t, s, slices.Concat(list(child), l), slices.Concat(list(child), l[:n-1])...)
		first := bare(t, s, "first", l[0])
		wantReduce(t, s, slices.Concat(l, list(first)), slices.Concat(l[1:], list(first))...)
	}
}

// P12.2: several bases, in the order of the history of the first and the second one.
func TestBases(t *testing.T) {
	s, _ := open(t)
	a, b, c, d, e, z := six(t, s)
	crossed := bare(t, s, "crossed", c, b)
	wantBases(t, s, d, crossed, b, c)
	wantBases(t, s, crossed, d, c, b)
	third := bare(t, s, "third", e, c, z, b)
	wantBases(t, s, third, d, c, b)
	wantBases(t, s, d, third, b, c)
	wantBases(t, s, third, bare(t, s, "fourth", z, d, e), e, c, z, b)
	// What both came of by a shorter way, too, is no base, wherever it stands among the parents.
	for _, from := range [][]api.Id{{b, a}, {a, b}, {a, b, a}} {
		one := bare(t, s, "one", from...)
		wantBases(t, s, one, bare(t, s, "two", b), b)
		wantBases(t, s, one, bare(t, s, "two", a, b), b)
		wantBases(t, s, one, bare(t, s, "two", b, a), b)
		wantBases(t, s, one, bare(t, s, "two", a), a)
		wantBases(t, s, one, c, a)
	}
	// Below a commit that one alone came of a common one is still a base.
	wantBases(t, s, bare(t, s, "long", bare(t, s, "way", bare(t, s, "down", e))), bare(t, s, "short", e), e)
	wantBases(t, s, z, third, z)
	wantBases(t, s, z, z, z)
	wantBases(t, s, d, d, d)
	wantBases(t, s, d, z)
	wantBases(t, s, z, d)
}

// P12.2: a base has ancestors that are common in many ways, and none of these is a base.
func TestBasesOfLadder(t *testing.T) {
	s, _ := open(t)
	left, right := bare(t, s, "left"), bare(t, s, "right")
	wantBases(t, s, left, right)
	wantRelation(t, s, left, right, api.RelAlien)
	for k := range 40 {
		was, other := left, right
		left, right = bare(t, s, "left", was, other), bare(t, s, "right", other, was)
		wantBases(t, s, left, right, was, other)
		wantBases(t, s, right, left, other, was)
		wantBases(t, s, left, other, other)
		wantApart(t, s, left, right, 1, 1)
		wantApart(t, s, left, other, 2, 0)
		wantApart(t, s, was, right, 0, 2)
		wantRelation(t, s, left, right, api.RelParted)
		wantRelation(t, s, left, other, api.RelAhead)
		wantRelation(t, s, was, right, api.RelBehind)
		wantReduce(t, s, list(was, right, other, left, right), right, left)
		if t.Failed() {
			t.Fatalf("step %d", k)
		}
	}
}

// P12.3: each commit is counted once, by however many ways it is come to.
func TestApart(t *testing.T) {
	s, _ := open(t)
	a, b, c, d, e, z := six(t, s)
	wantApart(t, s, a, z, 1, 1)
	wantApart(t, s, d, z, 4, 1)
	wantApart(t, s, z, d, 1, 4)
	wantApart(t, s, b, c, 1, 1)
	wantApart(t, s, d, c, 2, 0)
	wantApart(t, s, e, d, 1, 3)
	f := bare(t, s, "f", d, d, a, z, d, b)
	wantApart(t, s, f, e, 5, 1)
	wantApart(t, s, f, d, 2, 0)
	wantApart(t, s, a, f, 0, 5)
	wantApart(t, s, f, f, 0, 0)
}

// P12.3: near and far, and with more than one commit in common.
func TestRelation(t *testing.T) {
	s, _ := open(t)
	a, b, c, d, e, z := six(t, s)
	for _, id := range list(a, b, c, d, e, z) {
		wantRelation(t, s, id, id, api.RelSame)
	}
	f := bare(t, s, "f", z, e)
	for _, q := range []struct {
		a, b api.Id
		kind int
	}{
		{b, a, api.RelAhead}, {d, b, api.RelAhead}, {d, c, api.RelAhead}, {f, z, api.RelAhead}, {f, e, api.RelAhead}, {f, a, api.RelAhead},
		{a, b, api.RelBehind}, {a, e, api.RelBehind}, {z, f, api.RelBehind}, {c, d, api.RelBehind},
		{b, c, api.RelParted}, {d, f, api.RelParted}, {f, b, api.RelParted},
		{z, a, api.RelAlien}, {d, z, api.RelAlien}, {z, e, api.RelAlien},
	} {
		wantRelation(t, s, q.a, q.b, q.kind)
	}
}

// No history is too deep, and no list of a store's commits too long.
func TestFullStore(t *testing.T) {
	s, _ := open(t)
	z := bare(t, s, "z")
	var line, from []api.Id
	for s.Len() < api.MaxObjects {
		id := keep(t, s, api.Commit{Tree: keepTree(t, s), Parents: from})
		line, from = append(line, id), list(id)
	}
	n := len(line)
	first, mid, last := line[0], line[n/2], line[n-1]
	wantReduce(t, s, line, last)
	wantReduce(t, s, list(first, z, last, mid), z, last)
	wantBases(t, s, mid, last, mid)
	wantBases(t, s, last, z)
	wantApart(t, s, last, mid, n-1-n/2, 0)
	wantApart(t, s, z, last, 1, n)
	wantRelation(t, s, last, first, api.RelAhead)
	wantRelation(t, s, mid, last, api.RelBehind)
	wantRelation(t, s, last, z, api.RelAlien)
}

// The lists that are handed in stay as they are, with the room behind their ends, and answers are new memory.
func TestMemory(t *testing.T) {
	s, _ := open(t)
	a, b, c, d, _, _ := six(t, s)
	whole := list(b, a, c, b, 1, 2)
	was := slices.Clone(whole)
	left, _ := parents.Reduce(s, whole[:4]...)
	parents.Reduced(s, whole[:4]...)
	if !slices.Equal(whole, was) {
		t.Errorf("%x became %x", was, whole)
	}
	for i := range left[:cap(left)] {
		left[:cap(left)][i] = missing
	}
	if !slices.Equal(whole, was) {
		t.Errorf("%x became %x by its answer", was, whole)
	}
	crossed := bare(t, s, "crossed", c, b)
	bases, _ := parents.Bases(s, d, crossed)
	for i := range bases[:cap(bases)] {
		bases[:cap(bases)][i] = missing
	}
	wantBases(t, s, d, crossed, b, c)
	wantReduce(t, s, list(b, a, c, b), b, c)
}

// Nothing is put in, and an opened store answers the same.
func TestOpenedAgain(t *testing.T) {
	s, d := open(t)
	a, b, c, top, e, z := six(t, s)
	n, size, writes := s.Len(), fileSize(t, d), d.Writes()
	for range 2 {
		wantReduce(t, s, list(b, z, c), b, z, c)
		wantBases(t, s, top, e, a)
		wantApart(t, s, top, e, 3, 1)
		wantRelation(t, s, top, e, api.RelParted)
		wantRefused(t, s, top, missing, api.ErrNone)
		if s.Len() != n || fileSize(t, d) != size || d.Writes() != writes {
			t.Errorf("%d objects, %d bytes, %d writes: not %d, %d, %d", s.Len(), fileSize(t, d), d.Writes(), n, size, writes)
		}
		s = openDisk(t, d)
	}
}

func fileSize(t *testing.T, d *disk.Disk) int {
	t.Helper()
	n, err := d.Size("objects")
	if err != api.OK {
		t.Fatal(err)
	}
	return n
}
