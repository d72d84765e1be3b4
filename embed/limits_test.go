package embed_test

import (
	"slices"
	"testing"

	"espalier/api"
	"espalier/disk"
	"espalier/embed"
	"espalier/pathmap"
	"espalier/split"
	"espalier/store"
)

// joinable is a host and a side of three commits by move lib "", which have nothing in common; the side's first commit, and what has to come of all.
type joinable struct {
	m          *pathmap.Map
	host, side api.Id
	one        api.Id
	asked      api.Joined
}

func joinableIn(t *testing.T, s *store.Store) joinable {
	t.Helper()
	j := joinable{m: mapOf(t, move("lib", ""))}
	j.host = commit(t, s, "h", files{"b", "1"})
	j.one = commit(t, s, "1", files{"x", "1"})
	two := commit(t, s, "2", files{"x", "2"}, j.one)
	j.side = commit(t, s, "3", files{"x", "2", "y/z", "1"}, two)
	return j
}

// join joins it in a store, and tells what came of it.
func (j joinable) join(t *testing.T, s *store.Store) api.Joined {
	t.Helper()
	told, err := embed.Join(s, j.m, nil, j.host, j.side, text("join"))
	if err != api.OK || len(told.Made) != 3 || told.Merge == 0 {
		t.Fatalf("Join: %x %d", told, err)
	}
	return told
}

// P20.3: cut at each raw write: ErrCut; mended, opened and joined again: the same. What was put in stays; with nothing to be written a cut says nothing.
func TestJoinCutEverywhere(t *testing.T) {
	s, d := open(t)
	j := joinableIn(t, s)
	whole, before := d.Copy(), d.Writes()
	asked := j.join(t, s)
	objects := slices.Collect(s.Since(0))
	writes := d.Writes() - before
	if writes < 10 {
		t.Fatalf("%d raw writes alone", writes)
	}
	for cut := range writes {
		d := whole.Copy()
		s := openDisk(t, d)
		d.Cut(cut)
		wantNotJoined(t, "cut", api.ErrCut)(embed.Join(s, j.m, nil, j.host, j.side, text("join")))
		wantErr(t, "Proper while cut", api.OK, embed.Proper(s, j.m, j.side))
		d.Mend()
		s = openDisk(t, d)
		if ids := slices.Collect(s.Since(0)); !slices.Equal(ids, objects[:len(ids)]) {
			t.Errorf("cut at %d: %x", cut, ids)
		}
		wantJoined(t, "again", asked)(embed.Join(s, j.m, nil, j.host, j.side, text("join")))
		if ids := slices.Collect(s.Since(0)); !slices.Equal(ids, objects) {
			t.Errorf("again, behind a cut at %d: %x, not %x", cut, ids, objects)
		}
	}
	d.Cut(0)
	wantJoined(t, "nothing to be written", asked)(embed.Join(s, j.m, nil, j.host, j.side, text("join")))
	wantJoined(t, "nothing to be made", api.Joined{Head: asked.Head})(embed.Join(s, j.m, nil, asked.Head, j.side, text("join")))
	wantJoined(t, "opened while cut", asked)(embed.Join(openDisk(t, d), j.m, nil, j.host, j.side, text("join")))
}

// P20.1, P20.2: what is put in on the way can be cut.
func TestProperCut(t *testing.T) {
	s, d := open(t)
	h, m := chapter(t, s), mapOf(t, keep("a"))
	same := commit(t, s, "same", files{"a/x", "2"}, commit(t, s, "4", files{"a/x", "2"}))
	pruned := commit(t, s, "pruned", files{"a/x", "3"}, same)
	d.Cut(0)
	wantErr(t, "Proper", api.ErrCut, embed.Proper(s, m, pruned))
	wantErr(t, "Proper of what need not be put in", api.ErrImproper, embed.Proper(s, m, same))
	wantNoPlaces(t, "Places", api.ErrCut)(embed.Places(s, m, nil, h.five))
	wantPlaces(t, "Places where all is known", pair(h.a, h.three))(embed.Places(s, m, learned{h.one: 0, h.two: h.a, h.three: h.a}, h.three))
	wantNotJoined(t, "Join of what can't be looked at", api.ErrCut)(embed.Join(s, m, nil, h.five, pruned, text("join")))
	wantNotJoined(t, "Join into what can't be looked at", api.ErrCut)(embed.Join(s, m, nil, h.five, commitIn(t, s, same), text("join")))
}

// commitIn is the first parent of a commit.
func commitIn(t *testing.T, s *store.Store, id api.Id) api.Id {
	t.Helper()
	c, err := s.Commit(id)
	if err != api.OK || len(c.Parents) == 0 {
		t.Fatalf("%x has no parents: %d", id, err)
	}
	return c.Parents[0]
}

// P20.3: a store that has no room for all that has to be put in: ErrLong, wherever it is full.
func TestJoinFullStore(t *testing.T) {
	s, d := open(t)
	j := joinableIn(t, s)
	whole := d.Copy()
	asked := j.join(t, s)
	news := s.Len() - openDisk(t, whole).Len()
	d = whole.Copy()
	s = openDisk(t, d)
	for n := 0; s.Len() < api.MaxObjects-news; n++ {
		put(t, s, api.Blob{Bytes: []byte{1, byte(n), byte(n >> 8)}})
	}
	full := d.Copy()
	for room := news; room >= 0; room-- {
		s := openDisk(t, full.Copy())
		for n := range news - room {
			put(t, s, api.Blob{Bytes: []byte{2, byte(n)}})
		}
		if room == news {
			wantJoined(t, "room for all", asked)(embed.Join(s, j.m, nil, j.host, j.side, text("join")))
		} else {
			wantNotJoined(t, "no room for all", api.ErrLong)(embed.Join(s, j.m, nil, j.host, j.side, text("join")))
		}
		if s.Len() != api.MaxObjects {
			t.Errorf("room for %d: %d objects", room, s.Len())
		}
	}
}

// Blobs that have the ids of what has to be put in: of the empty tree, of the commit that is made for the side's first one, and of the one that joins both.
const (
	blobLikeEmpty = "\x00\x46\x28\x0a\x3f\xc3\x7b\x34\x57"
	blobLikeFirst = "\x01\x1c\x0b\x05\x1e\x06\x24\x39\x37\x41\x78\x0e\x13\x26"
	blobLikeMerge = "\x05\x5b\x11\x1c\x26\x2a\xd0\x0e\xdd\xcf\x19\x0b\x14\x6f"
)

// P20.3: an id that has other bytes: that object is not put in, nor any behind it; nor is anything into none without the empty tree.
func TestJoinCollisions(t *testing.T) {
	s, d := open(t)
	j := joinableIn(t, s)
	whole := d.Copy()
	asked := j.join(t, s)
	for _, c := range []struct {
		blob     string
		id, host api.Id
		made     int
	}{
		{blobLikeEmpty, idOf(api.Tree{}), 0, 0},
		{blobLikeFirst, asked.Made[0].To, 0, 0},
		{blobLikeFirst, asked.Made[0].To, j.host, 0},
		{blobLikeMerge, asked.Merge, j.host, 3},
	} {
		s := openDisk(t, whole.Copy())
		if id := putBlob(t, s, c.blob); id != c.id {
			t.Fatalf("the blob has the id %x, not %x", id, c.id)
		}
		wantErr(t, "Proper", api.OK, embed.Proper(s, j.m, j.side))
		wantNotJoined(t, "a collision", api.ErrCollision)(embed.Join(s, j.m, nil, c.host, j.side, text("join")))
		for n, p := range asked.Made {
			if _, err := s.Commit(p.To); (err == api.OK) != (n < c.made) {
				t.Errorf("%x: %x: %d", c.id, p.To, err)
			}
		}
	}
}

// P20.1 to P20.4: a long line of commits, into none, into a host, and onto what was joined.
func TestJoinLong(t *testing.T) {
	s := openDisk(t, disk.New())
	m, by := mapOf(t, move("lib", ""), drop("lib/own")), text("join")
	trees := list(made(t, s, "x", "1"), made(t, s, "x", "2", "y/z", "1"))
	var sides []api.Id
	for k := range 15000 {
		sides = append(sides, put(t, s, api.Commit{Tree: trees[k%2], Parents: sides[max(0, k-1):]}))
	}
	host := commit(t, s, "h", files{"b", "1", "lib/own", "1"})
	half, side := sides[len(sides)/2], sides[len(sides)-1]
	first, err := embed.Join(s, m, nil, host, half, by)
	if err != api.OK || len(first.Made) != len(sides)/2+1 || first.Merge == 0 {
		t.Fatalf("%d: %d made", err, len(first.Made))
	}
	wantCarved(t, s, m, first.Head, half, first.Made...)
	next, err := embed.Join(s, m, nil, first.Head, side, by)
	if err != api.OK || len(next.Made) != len(sides)-len(first.Made) || next.Merge != 0 {
		t.Fatalf("%d: %d made", err, len(next.Made))
	}
	wantCarved(t, s, m, next.Head, side, next.Made...)
	all := slices.Concat(first.Made, next.Made)
	for _, k := range []split.Known{nil, learned{next.Head: side}, learned{first.Head: half}} {
		wantPlaces(t, "behind it", all...)(embed.Places(s, m, k, next.Head))
	}
}
