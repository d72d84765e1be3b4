package split_test

import (
	"math"
	"slices"
	"strconv"
	"strings"
	"testing"

	"espalier/api"
	"espalier/pathmap"
	"espalier/split"
	"espalier/store"
)

// keepAs puts in a commit with the empty tree whose date was chosen so that it has that id.
func keepAs(t *testing.T, s *store.Store, id api.Id, author string, date int64, text string, parents ...api.Id) api.Id {
	t.Helper()
	c := api.Commit{Tree: putTree(t, s), Parents: parents, Author: author, Date: date, Text: text}
	if got := put(t, s, c); got != id {
		t.Fatalf("the commit has the id %x, not %x", got, id)
	}
	return id
}

// bare puts in a commit with the empty tree.
func bare(t *testing.T, s *store.Store, text string, parents ...api.Id) api.Id {
	t.Helper()
	return put(t, s, api.Commit{Tree: putTree(t, s), Parents: parents, Text: text})
}

// selfRing puts in a commit that is its own parent.
func selfRing(t *testing.T, s *store.Store) api.Id {
	t.Helper()
	return keepAs(t, s, 2, "", -3590087674594721765, "self", 2)
}

// midRing puts in a commit that is its own parent, behind one that is right and ahead of one that is missing.
func midRing(t *testing.T, s *store.Store) api.Id {
	t.Helper()
	return keepAs(t, s, 3, "b", 9170554653108421525, "self", bare(t, s, "a"), 3, missing)
}

// twoRing puts in two commits that came of each other.
func twoRing(t *testing.T, s *store.Store) (x, y api.Id) {
	t.Helper()
	y = bare(t, s, "two", 5)
	return keepAs(t, s, 5, "a", 6544026547350932604, "two", y), y
}

// threeRing puts in three commits that came of each other in turn, with others beside: x of a and y, y of b and z, z of a, x and one that is missing.
func threeRing(t *testing.T, s *store.Store) (x, y, z api.Id) {
	t.Helper()
	a := bare(t, s, "a")
	b := bare(t, s, "b", a)
	z = bare(t, s, "z", a, 6, missing)
	y = bare(t, s, "y", b, z)
	return keepAs(t, s, 6, "a", 52604953541899167, "x", a, y), y, z
}

// P16.1: each of the Words' cases, the tree being the projection of a folder.
func TestStepCases(t *testing.T) {
	s, _ := open(t)
	m := mapOf(t, move("a", ""))
	one, two := made(t, s, "x", "1"), made(t, s, "x", "2")
	c := commit(t, s, "c", files{"a/x", "1", "b", "3"})
	gone := commit(t, s, "gone", files{"b", "3"})
	root := put(t, s, commitOf("root", two))
	like, unlike := put(t, s, commitOf("like", one, root)), put(t, s, commitOf("unlike", two, root))
	bareTree := put(t, s, commitOf("bare", putTree(t, s)))
	own := func(parents ...api.Id) api.Id { return idOf(commitOf("c", one, parents...)) }
	ownGone := func(parents ...api.Id) api.Id { return idOf(commitOf("gone", idOf(api.Tree{}), parents...)) }
	for _, step := range []struct {
		c        api.Id
		standins []api.Id
		standin  api.Id
		kept     bool
	}{
		{c, nil, own(), true},
		{c, list(0, 0, 0), own(), true},
		{gone, nil, 0, false},
		{gone, list(0), 0, false},
		{c, list(like), like, false},
		{c, list(0, like, 0, like), like, false},
		{c, list(unlike), own(unlike), true},
		{c, list(unlike, unlike, 0), own(unlike), true},
		{c, list(root, like), like, false},
		{c, list(like, root), like, false},
		{c, list(root, unlike), own(unlike), true},
		{c, list(like, unlike), own(like, unlike), true},
		{c, list(unlike, like), own(unlike, like), true},
		{c, list(unlike, 0, root, like, unlike), own(unlike, like), true},
		{c, list(bareTree), own(bareTree), true},
		{gone, list(bareTree), bareTree, false},
		{gone, list(like), ownGone(like), true},
		{gone, list(bareTree, like), ownGone(bareTree, like), true},
		{gone, list(bareTree, bareTree), bareTree, false},
	} {
		asked := api.Standing{Commit: step.c, Standin: step.standin, Kept: step.kept}
		wantStep(t, "Step", asked)(split.Step(s, m, step.c, step.standins...))
		before := s.Len()
		wantStep(t, "Step once more", asked)(split.Step(s, m, step.c, step.standins...))
		wantSince(t, "once more", s, before)
		if step.standin != 0 && !s.Has(step.standin) {
			t.Errorf("%x is not put in", step.standin)
		}
	}
}

// P16.1: the tree, the parents, and what is carried of the commit.
func TestStepCarries(t *testing.T) {
	s, _ := open(t)
	parent := commit(t, s, "p", files{"x", "1"})
	for _, c := range []api.Commit{
		{},
		{Author: "é", Date: math.MinInt64, Text: "line\nline\n"},
		{Author: strings.Repeat("w", api.MaxAuthor), Date: math.MaxInt64, Text: strings.Repeat("t", api.MaxText)},
	} {
		c.Tree, c.Parents = made(t, s, "a/x", "2", "b", "1"), list(missing, missing)
		told, err := split.Step(s, mapOf(t, move("a", "c/d")), put(t, s, c), parent)
		if err != api.OK || !told.Kept {
			t.Fatalf("Step: %v %d", told, err)
		}
		c.Tree, c.Parents = made(t, s, "c/d/x", "2"), list(parent)
		wantCommit(t, s, told.Standin, c)
	}
}

// P16.1: what is handed in stays, the room behind its end, too.
func TestStepLeavesList(t *testing.T) {
	s, _ := open(t)
	a, b := commit(t, s, "a", files{"x", "1"}), commit(t, s, "b", files{"x", "2"})
	room := list(0, a, 0, b, a, missing, missing)
	kept := slices.Clone(room)
	if _, err := split.Step(s, pathmap.Trivial(), a, room[:5]...); err != api.OK {
		t.Fatalf("Step: %d", err)
	}
	if !slices.Equal(room, kept) {
		t.Errorf("the list is %x, not %x", room, kept)
	}
}

// wrongCommits is ids that are no commits, or commits with wrong histories, and the errors that they make as one of a list.
func wrongCommits(t *testing.T, s *store.Store) map[api.Id]api.Errno {
	t.Helper()
	x, y := twoRing(t, s)
	return map[api.Id]api.Errno{
		missing:                        api.ErrNone,
		putBlob(t, s, "1"):             api.ErrKind,
		putTree(t, s):                  api.ErrKind,
		selfRing(t, s):                 api.ErrRing,
		x:                              api.ErrRing,
		y:                              api.ErrRing,
		bare(t, s, "missing", missing): api.ErrNone,
		bare(t, s, "child", bare(t, s, "a"), bare(t, s, "kind", putTree(t, s)), missing): api.ErrKind,
	}
}

// illTrees is trees that can't be projected, by rules, and the errors of these.
func illTrees(t *testing.T, s *store.Store) []ill {
	t.Helper()
	blob, empty := putBlob(t, s, "1"), putTree(t, s)
	long := mapOf(t, move("long", strings.Join(slices.Repeat([]string{strings.Repeat("l", 32)}, 6), "/")))
	return []ill{
		{missing, long, api.ErrNone},
		{putTree(t, s, api.Entry{Name: "z", Id: missing}), long, api.ErrNone},
		{blob, long, api.ErrKind},
		{bare(t, s, "no tree"), long, api.ErrKind},
		{putTree(t, s, api.Entry{Name: "z", Folder: true, Id: empty}), long, api.ErrBroken},
		{made(t, s, "long/a", "1", "long/bcd", "1"), long, api.ErrLong},
		{made(t, s, "up", "1"), mapOf(t, move("up", "")), api.ErrClash},
	}
}

type ill struct {
	tree api.Id
	m    *pathmap.Map
	err  api.Errno
}

// P16.1: the first of several errors; nothing is put in with one of these.
func TestStepErrors(t *testing.T) {
	s, _ := open(t)
	m, wrong, trees := pathmap.Trivial(), wrongCommits(t, s), illTrees(t, s)
	fine := commit(t, s, "fine", files{"x", "1"})
	var ills []api.Id
	for _, i := range trees {
		ills = append(ills, put(t, s, commitOf("ill", i.tree, missing)))
	}
	before := s.Len()
	for standin, err := range wrong {
		wantNoStep(t, "what is not there", api.ErrNone)(split.Step(s, m, missing, standin))
		wantNoStep(t, "what is none", api.ErrNone)(split.Step(s, m, 0, standin))
		wantNoStep(t, "a blob", api.ErrKind)(split.Step(s, m, putBlob(t, s, "1"), standin))
		wantNoStep(t, "a tree", api.ErrKind)(split.Step(s, m, putTree(t, s), standin))
		wantNoStep(t, "a wrong one", err)(split.Step(s, m, fine, standin))
		wantNoStep(t, "a wrong one behind others", err)(split.Step(s, m, fine, fine, 0, standin, 0))
		for other := range wrong {
			wantNoStep(t, "two wrong ones", err)(split.Step(s, m, fine, fine, standin, other))
		}
		for k, c := range ills {
			wantNoStep(t, "a wrong one, and a wrong tree", err)(split.Step(s, trees[k].m, c, standin))
		}
	}
	for k, c := range ills {
		wantNoStep(t, "a wrong tree", trees[k].err)(split.Step(s, trees[k].m, c))
		wantNoStep(t, "a wrong tree behind one", trees[k].err)(split.Step(s, trees[k].m, c, fine))
	}
	wantSince(t, "errors", s, before)
}

// P16.1: more parents than a commit may have: ErrLong of store.Put; they are counted behind being reduced.
func TestStepManyParents(t *testing.T) {
	s, _ := open(t)
	m := pathmap.Trivial()
	root := commit(t, s, "root", files{"x", "1"})
	c := commit(t, s, "c", files{"x", "1"})
	all := list(root, root)
	for k := range api.MaxParents {
		all = append(all, commit(t, s, strconv.Itoa(k), files{"x", "1"}, root))
	}
	own := commitOf("c", made(t, s, "x", "1"), all[2:]...)
	wantStep(t, "eight", api.Standing{Commit: c, Standin: idOf(own), Kept: true})(split.Step(s, m, c, slices.Concat(all, all)...))
	wantCommit(t, s, idOf(own), own)
	all = append(all, commit(t, s, "one more", files{"x", "1"}, root))
	before := s.Len()
	wantNoStep(t, "nine", api.ErrLong)(split.Step(s, m, c, all...))
	wantSince(t, "nine", s, before)
	last := commit(t, s, "of all", files{"x", "1"}, all[2:10]...)
	own = commitOf("c", made(t, s, "x", "1"), all[10], last)
	wantStep(t, "ten, eight of them ancestors", api.Standing{Commit: c, Standin: idOf(own), Kept: true})(split.Step(s, m, c, append(all, last)...))
}
