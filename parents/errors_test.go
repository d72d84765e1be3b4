package parents_test

import (
	"testing"

	"espalier/api"
	"espalier/parents"
	"espalier/store"
)

// keepAs puts in a commit with the empty tree whose date was chosen so that it has that id.
func keepAs(t *testing.T, s *store.Store, id api.Id, author string, date int64, text string, from ...api.Id) api.Id {
	t.Helper()
	c := api.Commit{Tree: keepTree(t, s), Parents: from, Author: author, Date: date, Text: text}
	if got := keep(t, s, c); got != id {
		t.Fatalf("the commit has the id %x, not %x", got, id)
	}
	return id
}

// selfRing puts in a commit that is its own parent.
func selfRing(t *testing.T, s *store.Store) api.Id {
	t.Helper()
	return keepAs(t, s, 2, "", -3590087674594721765, "self", 2)
}

// twoRing puts in a commit that came of one that came of it.
func twoRing(t *testing.T, s *store.Store) api.Id {
	t.Helper()
	return keepAs(t, s, 5, "a", 6544026547350932604, "two", bare(t, s, "two", 5))
}

// P12.1 to P12.3: of no store nothing else is asked.
func TestNil(t *testing.T) {
	wantRefusedList(t, nil, nil, api.ErrNil)
	wantRefusedList(t, nil, list(missing), api.ErrNil)
	for _, id := range list(0, 1, missing) {
		wantRefused(t, nil, id, id, api.ErrNil)
		wantRefused(t, nil, missing, id, api.ErrNil)
	}
}

// P12.1 to P12.3: what is no commit, handed in or come to, at each place.
func TestNoCommits(t *testing.T) {
	s, _ := open(t)
	a := bare(t, s, "a")
	for id, err := range map[api.Id]api.Errno{
		missing: api.ErrNone, 0: api.ErrNone, keepBlob(t, s, "1"): api.ErrKind, keepTree(t, s): api.ErrKind,
		selfRing(t, s): api.ErrRing, twoRing(t, s): api.ErrRing,
	} {
		wantRefused(t, s, id, id, err)
		wantRefused(t, s, a, id, err)
		wantRefused(t, s, id, a, err)
		wantRefusedList(t, s, list(id), err)
		wantRefusedList(t, s, list(a, a, id, a), err)
		if id == 0 {
			continue
		}
		child := bare(t, s, "child", a, id)
		wantRefused(t, s, child, child, err)
		wantRefused(t, s, a, child, err)
		wantRefused(t, s, bare(t, s, "grandchild", child, a), a, err)
		wantRefusedList(t, s, list(a, child), err)
	}
}

// P12.1 to P12.3: of several errors the one that the order of the ids comes to first.
func TestFirstError(t *testing.T) {
	s, _ := open(t)
	a, blob, ring := bare(t, s, "a"), keepBlob(t, s, "1"), selfRing(t, s)
	wrong := map[api.Id]api.Errno{missing: api.ErrNone, blob: api.ErrKind, ring: api.ErrRing}
	for one, err := range wrong {
		for two := range wrong {
			wantRefused(t, s, one, two, err)
			wantRefusedList(t, s, list(a, one, two, a), err)
			deep := bare(t, s, "deep", a, bare(t, s, "in", one), two)
			wantRefused(t, s, deep, two, err)
			wantRefused(t, s, a, deep, err)
		}
	}
}

// Trees are not read: a commit counts whose tree is not there.
func TestNoTrees(t *testing.T) {
	s, _ := open(t)
	a := keep(t, s, api.Commit{Tree: missing})
	b := keep(t, s, api.Commit{Tree: missing, Parents: list(a), Text: "b"})
	c := keep(t, s, api.Commit{Tree: a, Parents: list(a), Text: "c"})
	wantReduce(t, s, list(a, b, c), b, c)
	wantBases(t, s, b, c, a)
	wantApart(t, s, b, c, 1, 1)
	wantRelation(t, s, b, c, api.RelParted)
}

// P12.2: commits that have nothing in common have no base, and that is no error of Bases.
func TestNoBase(t *testing.T) {
	s, _ := open(t)
	a, z := bare(t, s, "a"), bare(t, s, "z")
	if bases, err := parents.Bases(s, a, z); len(bases) != 0 || err != api.OK {
		t.Errorf("Bases: %x %d", bases, err)
	}
	if id, err := parents.Base(s, a, z); id != 0 || err != api.ErrNone {
		t.Errorf("Base: %x %d", id, err)
	}
	if id, err := parents.Base(s, a, keepBlob(t, s, "1")); id != 0 || err != api.ErrKind {
		t.Errorf("Base of a blob: %x %d", id, err)
	}
}
