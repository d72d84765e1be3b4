package graph_test

import (
	"testing"

	"espalier/api"
	"espalier/graph"
	"espalier/store"
)

// keepAs puts in a commit with the empty tree whose date was chosen so that it has that id.
func keepAs(t *testing.T, s *store.Store, id api.Id, author string, date int64, text string, parents ...api.Id) api.Id {
	t.Helper()
	c := api.Commit{Tree: keepTree(t, s), Parents: parents, Author: author, Date: date, Text: text}
	if got := keep(t, s, c); got != id {
		t.Fatalf("the commit has the id %x, not %x", got, id)
	}
	return id
}

// selfRing puts in a commit that is its own parent.
func selfRing(t *testing.T, s *store.Store) api.Id {
	t.Helper()
	return keepAs(t, s, 2, "", -3590087674594721765, "self", 2)
}

// midRing puts in a commit that is its own parent, behind one that is right and ahead of one that is missing.
func midRing(t *testing.T, s *store.Store) api.Id {
	t.Helper()
	return keepAs(t, s, 3, "b", 9170554653108421525, "self", bare(t, s, "a"), 3, missing)
}

// twoRing puts in a commit that came of one that came of it.
func twoRing(t *testing.T, s *store.Store) api.Id {
	t.Helper()
	return keepAs(t, s, 5, "a", 6544026547350932604, "two", bare(t, s, "two", 5))
}

// threeRing puts in three commits that came of each other in turn, with others beside: x of a and y, y of b and z, z of a, x and one that is missing.
func threeRing(t *testing.T, s *store.Store) (x, y, z api.Id) {
	t.Helper()
	a := bare(t, s, "a")
	b := bare(t, s, "b", a)
	z = bare(t, s, "z", a, 6, missing)
	y = bare(t, s, "y", b, z)
	return keepAs(t, s, 6, "a", 52604953541899167, "x", a, y), y, z
}

// P11.1 to P11.4: rings, begun at each of their commits, and come to from outside.
func TestRings(t *testing.T) {
	s, _ := open(t)
	a := bare(t, s, "a")
	x, y, _ := threeRing(t, s)
	two := twoRing(t, s)
	for _, id := range list(selfRing(t, s), midRing(t, s), two, bare(t, s, "two", two), x, y) {
		wantRefusedOne(t, s, id, api.ErrRing)
		wantRefused(t, s, a, id, api.ErrRing)
		wantRefused(t, s, id, a, api.ErrRing)
		wantRefused(t, s, id, missing, api.ErrRing)
		wantRefused(t, s, missing, id, api.ErrNone)
		child := bare(t, s, "child", a, id, missing)
		wantRefusedOne(t, s, child, api.ErrRing)
		wantRefusedOne(t, s, bare(t, s, "grandchild", a, child), api.ErrRing)
	}
}

// P11.1: a ring that is never come to the end of: what is missing on the way is told.
func TestRingBehindMissing(t *testing.T) {
	s, _ := open(t)
	x, _, z := threeRing(t, s)
	// z's way leads through x, y and to itself, ahead of what is missing.
	wantRefusedOne(t, s, z, api.ErrRing)
	wantRefusedOne(t, s, bare(t, s, "m", missing, x), api.ErrNone)
	wantRefusedOne(t, s, bare(t, s, "k", keepTree(t, s), x), api.ErrKind)
}

// P11.1: a commit to which several ways lead is no ring.
func TestNoRings(t *testing.T) {
	s, _ := open(t)
	a := bare(t, s, "a")
	b := bare(t, s, "b", a, a)
	c := bare(t, s, "c", a, b, a)
	d := bare(t, s, "d", c, b, a, c)
	want(t, "Order", a, b, c, d)(graph.Order(s, d, a, d))
	wantWhole(t, s, d, api.OK)
}
