package split_test

import (
	"slices"
	"testing"

	"espalier/api"
	"espalier/disk"
	"espalier/pathmap"
	"espalier/split"
	"espalier/store"
)

// line puts in that many commits, one of the other, whose trees take turns; the first one has a parent or none.
func line(t *testing.T, s *store.Store, n int, trees []api.Id, parents ...api.Id) []api.Id {
	t.Helper()
	var ids []api.Id
	for k := range n {
		ids = append(ids, put(t, s, api.Commit{Tree: trees[k%len(trees)], Parents: parents}))
		parents = ids[k:]
	}
	return ids
}

// P16.2, P16.4: a store full of one line of commits, all of which are kept, as they stand.
func TestDeep(t *testing.T) {
	s, d := open(t)
	trees := list(made(t, s, "a", "1"), made(t, s, "a", "2"))
	ids := line(t, s, api.MaxObjects-s.Len(), trees)
	head := ids[len(ids)-1]
	before := d.Writes()
	u, err := split.Of(s, pathmap.Trivial(), head)
	if err != api.OK || u.Head() != head || u.Projected() != len(ids) {
		t.Fatalf("Of: %x %d, %d projections", u.Head(), err, u.Projected())
	}
	for k, standing := range u.All() {
		if standing != stand(ids[k], ids[k], true) {
			t.Fatalf("%d: %+v", k, standing)
		}
	}
	if d.Writes() != before {
		t.Error("something is written")
	}
	half := learned{}
	for _, id := range ids[:len(ids)/2] {
		half[id] = id
	}
	v, err := split.From(s, pathmap.Trivial(), half, head)
	if err != api.OK || v.Head() != head || v.Projected() != len(ids)-len(half) {
		t.Fatalf("From: %x %d, %d projections", v.Head(), err, v.Projected())
	}
}

// P16.2: a store that has no room for what is kept: ErrLong; what needs no room is told.
func TestFullStore(t *testing.T) {
	s, _ := open(t)
	h, m := chapter(t, s), mapOf(t, keep("a"))
	putTree(t, s)
	line(t, s, api.MaxObjects-s.Len(), list(made(t, s, "b", "1")))
	wantNoTable(t, "Of", api.ErrLong)(split.Of(s, m, h.five))
	wantNoStep(t, "Step", api.ErrLong)(split.Step(s, m, h.two))
	wantTable(t, "nothing to be put in", stand(h.one, 0, false))(split.Of(s, mapOf(t, keep("c")), h.one))
	wantTable(t, "by Trivial", stand(h.one, h.one, true), stand(h.two, h.two, true))(split.Of(s, pathmap.Trivial(), h.two))
}

// blobLikeA is a blob that has the id of the commit A of the chapter's section 'Examples'.
const blobLikeA = "\x82\x3c\x00\x38\x11\x30\x22\x16\x08\x05\x05\x0f\xfa\x00"

// P16.1, P16.2: a commit whose id has other bytes is not put in, nor anything behind it.
func TestCollision(t *testing.T) {
	s, _ := open(t)
	h, m := chapter(t, s), mapOf(t, keep("a"))
	if id := putBlob(t, s, blobLikeA); id != h.a {
		t.Fatalf("the blob has the id %x, not %x", id, h.a)
	}
	before := s.Len()
	wantNoStep(t, "Step", api.ErrCollision)(split.Step(s, m, h.two, 0))
	wantNoTable(t, "Of", api.ErrCollision)(split.Of(s, m, h.five))
	wantNoTable(t, "From", api.ErrCollision)(split.From(s, m, learned{h.one: 0}, h.two))
	wantNoTable(t, "what stands in is no commit", api.ErrKind)(split.From(s, m, learned{h.two: h.a}, h.three))
	wantSince(t, "a collision", s, before, idOf(api.Tree{})) // the projection of 1
}

// P16.1: a tree whose id has other bytes can't be projected to.
func TestTreeCollision(t *testing.T) {
	s, _ := open(t)
	blobLikeEmpty := "\x00\x46\x28\x0a\x3f\xc3\x7b\x34\x57"
	c := put(t, s, commitOf("c", putTree(t, s, api.Entry{Name: "x", Id: putBlob(t, s, "1")})))
	if id := putBlob(t, s, blobLikeEmpty); id != idOf(api.Tree{}) {
		t.Fatalf("the blob has the id %x", id)
	}
	wantNoStep(t, "Step", api.ErrCollision)(split.Step(s, mapOf(t), c))
	wantNoTable(t, "Of", api.ErrCollision)(split.Of(s, mapOf(t), c))
	wantTable(t, "another tree", stand(c, c, true))(split.Of(s, pathmap.Trivial(), c))
}

// P16.2: cut at each raw write: ErrCut; mended, opened and done again: the same. What was put in stays.
func TestCutEverywhere(t *testing.T) {
	s, d := open(t)
	h, m := chapter(t, s), mapOf(t, move("a", "lib/a"))
	last := commit(t, s, "7", files{"a/x", "2", "a/y", "3"}, h.six, h.three)
	whole, before := d.Copy(), d.Writes()
	u, err := split.Of(s, m, last)
	if err != api.OK {
		t.Fatal(err)
	}
	writes := d.Writes() - before
	if writes < 10 {
		t.Fatalf("%d raw writes alone", writes)
	}
	objects := slices.Collect(s.Since(0))
	for cut := range writes {
		d := whole.Copy()
		s := openDisk(t, d)
		d.Cut(cut)
		wantNoTable(t, "cut", api.ErrCut)(split.Of(s, m, last))
		d.Mend()
		s = openDisk(t, d)
		if ids := slices.Collect(s.Since(0)); !slices.Equal(ids, objects[:len(ids)]) {
			t.Errorf("cut at %d: %x", cut, ids)
		}
		wantHead(t, wantTable(t, "again", u.All()...)(split.Of(s, m, last)), u.Head())
		if ids := slices.Collect(s.Since(0)); !slices.Equal(ids, objects) {
			t.Errorf("again, behind a cut at %d: %x, not %x", cut, ids, objects)
		}
	}
	d.Cut(0)
	wantTable(t, "nothing to be written", u.All()...)(split.Of(s, m, last))
	wantTable(t, "opened while cut", u.All()...)(split.Of(openDisk(t, d), m, last))
}

// P16.2, P16.4: steps of a ladder, each of both of the step below, so that all of them are merges.
func TestLadder(t *testing.T) {
	s := openDisk(t, disk.New())
	m := mapOf(t, keep("a"))
	left, right := commit(t, s, "l", files{"a", "1"}), commit(t, s, "r", files{"a", "1"})
	var asked []api.Standing
	for range 300 {
		l := put(t, s, api.Commit{Tree: made(t, s, "a", "1"), Parents: list(left, right), Text: "l"})
		r := put(t, s, api.Commit{Tree: made(t, s, "a", "1"), Parents: list(left, right), Text: "r"})
		asked = append(asked, stand(l, l, true), stand(r, r, true))
		left, right = l, r
	}
	top := commit(t, s, "top", files{"a", "1", "b", "1"}, left, right, left)
	own := idOf(commitOf("top", made(t, s, "a", "1"), left, right))
	u, err := split.Of(s, m, top)
	if err != api.OK || u.Head() != own || u.Projected() != 603 {
		t.Fatalf("Of: %x %d", u.Head(), err)
	}
	if all := u.All(); !slices.Equal(all[2:602], asked) {
		t.Error("the steps do not stand as they are")
	}
}
