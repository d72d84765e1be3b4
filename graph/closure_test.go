package graph_test

import (
	"slices"
	"strings"
	"testing"

	"espalier/api"
	"espalier/graph"
	"espalier/store"
)

// selfTree puts in a tree that stands in itself: its id is 2.
func selfTree(t *testing.T, s *store.Store) api.Id {
	t.Helper()
	id := keepTree(t, s, file("0", keepBlob(t, s, "1")), folder("a", 2), file("b", 0xa7c0d8ee820c7e04))
	if id != 2 {
		t.Fatalf("the tree has the id %x", id)
	}
	return id
}

// nested is a tree of that many folders of one name, each in the next one, around a tree.
func nested(t *testing.T, s *store.Store, id api.Id, name string, times int) api.Id {
	t.Helper()
	for range times {
		id = keepTree(t, s, folder(name, id))
	}
	return id
}

// P11.4: commits, trees and blobs, each once, and nothing that no head leads to.
func TestReach(t *testing.T) {
	s, _ := open(t)
	one, two := keepBlob(t, s, "1"), keepBlob(t, s, "2")
	inner := keepTree(t, s, file("x", one))
	first := keepTree(t, s, folder("a", inner), file("b", one))
	second := keepTree(t, s, folder("a", inner), folder("b", inner), file("c", two))
	a := of(t, s, "a", first)
	b := of(t, s, "b", second, a)
	z := bare(t, s, "z")
	keepBlob(t, s, "alone")
	for _, c := range []struct{ heads, asked []api.Id }{
		{nil, nil},
		{list(a), list(a, first, inner, one)},
		{list(b), list(a, b, first, second, inner, one, two)},
		{list(b, a, b), list(a, b, first, second, inner, one, two)},
		{list(z), list(z, keepTree(t, s))},
		{list(z, a), list(z, keepTree(t, s), a, first, inner, one)},
		{list(a, z), list(z, keepTree(t, s), a, first, inner, one)},
	} {
		slices.Sort(c.asked)
		want(t, "Reach", c.asked...)(graph.Reach(s, c.heads...))
		for _, head := range c.heads {
			wantWhole(t, s, head, api.OK)
		}
	}
}

// P11.4: ids rise as numbers without a sign, whichever they are.
func TestReachRises(t *testing.T) {
	s, _ := open(t)
	blob := keepBlob(t, s, "1")
	low, high := 0, 0
	var head []api.Id
	for k := range 40 {
		head = list(of(t, s, string([]byte{'0' + byte(k)}), keepTree(t, s, file(string([]byte{'a', '0' + byte(k)}), blob)), head...))
	}
	ids, err := graph.Reach(s, head...)
	if len(ids) != 81 || err != api.OK || !slices.IsSorted(ids) {
		t.Errorf("Reach: %x %d", ids, err)
	}
	for _, id := range ids {
		if id < 1<<63 {
			low++
		} else {
			high++
		}
	}
	if low == 0 || high == 0 {
		t.Errorf("%d low ids, %d high ones", low, high)
	}
}

// wrongTrees is trees that are not sound, each with what tree.Sound answers of it.
func wrongTrees(t *testing.T, s *store.Store) map[api.Id]api.Errno {
	t.Helper()
	blob, empty := keepBlob(t, s, "1"), keepTree(t, s)
	leaf := keepTree(t, s, file("a", blob))
	commit := bare(t, s, "in a tree")
	return map[api.Id]api.Errno{
		missing: api.ErrNone, blob: api.ErrKind, commit: api.ErrKind,
		keepTree(t, s, file("a", missing)):                 api.ErrNone,
		keepTree(t, s, folder("a", missing)):               api.ErrNone,
		keepTree(t, s, file("a", leaf)):                    api.ErrKind,
		keepTree(t, s, folder("a", commit)):                api.ErrKind,
		keepTree(t, s, folder("a", empty)):                 api.ErrBroken,
		nested(t, s, keepTree(t, s, file("a", 9)), "b", 3): api.ErrNone,
		nested(t, s, leaf, "c", 16):                        api.ErrLong,
		nested(t, s, leaf, strings.Repeat("w", 32), 7):     api.ErrLong,
		selfTree(t, s): api.ErrLong,
	}
}

// P11.4: a tree that is not sound, of the head and of an ancestor.
func TestUnsound(t *testing.T) {
	s, _ := open(t)
	leaf := keepTree(t, s, file("a", keepBlob(t, s, "1")))
	a := of(t, s, "a", leaf)
	for wrong, asked := range wrongTrees(t, s) {
		c := of(t, s, "c", wrong, a)
		for _, id := range list(c, of(t, s, "d", leaf, c), of(t, s, "e", leaf, a, of(t, s, "f", leaf, c, a))) {
			wantWhole(t, s, id, asked)
			wantErr(t, "Reach", asked)(graph.Reach(s, id))
			wantErr(t, "Reach", asked)(graph.Reach(s, a, id))
			wantErr(t, "Reach", asked)(graph.Reach(s, id, a))
			want(t, "Roots", a)(graph.Roots(s, id))
		}
	}
	wantWhole(t, s, a, api.OK)
	wantWhole(t, s, of(t, s, "b", nested(t, s, leaf, "c", 15), a), api.OK)
}

// P11.4: of several trees the first one by the order of the history is told, behind all that is wrong with its commits.
func TestFirstUnsound(t *testing.T) {
	s, _ := open(t)
	empty := keepTree(t, s)
	for one, asked := range wrongTrees(t, s) {
		for other := range wrongTrees(t, s) {
			first := of(t, s, "first", one)
			second := of(t, s, "second", other, first)
			wantWhole(t, s, second, asked)
			wantErr(t, "Reach", asked)(graph.Reach(s, second))
			beside := of(t, s, "beside", other)
			wantErr(t, "Reach", asked)(graph.Reach(s, first, beside))
			wantWhole(t, s, of(t, s, "third", other, first, beside), asked)
			wantWhole(t, s, of(t, s, "fourth", empty, bare(t, s, "x"), second), asked)
		}
		wantRefusedOne(t, s, of(t, s, "none", one, bare(t, s, "x", missing)), api.ErrNone)
		wantRefusedOne(t, s, of(t, s, "kind", one, of(t, s, "y", one), empty), api.ErrKind)
	}
}

// P11.4: trees are held right as the store is now: one that was missing and was put in makes a closure whole.
func TestMadeWhole(t *testing.T) {
	s, _ := open(t)
	late := api.Tree{Entries: []api.Entry{file("a", idOf(api.Blob{Bytes: []byte("late")}))}}
	c := of(t, s, "c", idOf(late))
	wantWhole(t, s, c, api.ErrNone)
	keep(t, s, late)
	wantWhole(t, s, c, api.ErrNone)
	wantErr(t, "Reach", api.ErrNone)(graph.Reach(s, c))
	keepBlob(t, s, "late")
	wantWhole(t, s, c, api.OK)
	want(t, "Reach", slices.Sorted(s.Since(0))...)(graph.Reach(s, c))
}
