package change_test

import (
	"slices"
	"strconv"
	"strings"
	"testing"

	"espalier/api"
	"espalier/change"
	"espalier/disk"
	"espalier/store"
	"espalier/tree"
)

func wantApplied(t *testing.T, s *store.Store, id api.Id, l []api.Change, asked api.Id) {
	t.Helper()
	if out, err := change.Apply(s, id, l); out != asked || err != api.OK {
		t.Errorf("Apply(%v): %x %d, not %x", told(l), out, err, asked)
	}
	if err := tree.Sound(s, asked); err != api.OK {
		t.Errorf("Apply(%v): a tree that is not sound: %d", told(l), err)
	}
}

// wantNotApplied wants Apply to answer an error, and to put in nothing.
func wantNotApplied(t *testing.T, s *store.Store, id api.Id, l []api.Change, asked api.Errno) {
	t.Helper()
	before := s.Len()
	if out, err := change.Apply(s, id, l); out != 0 || err != asked {
		t.Errorf("Apply(%v): %x %d, not %d", told(l), out, err, asked)
	}
	if s.Len() != before {
		t.Errorf("Apply(%v) put in %d objects", told(l), s.Len()-before)
	}
}

// keepDigits puts in blobs of 1 to 9.
func keepDigits(t *testing.T, s *store.Store) {
	t.Helper()
	for k := range 9 {
		keepBlob(t, s, strconv.Itoa(k+1))
	}
}

// sure is the id of the tree of files, made in a store of its own.
func sure(t *testing.T, told ...string) api.Id {
	t.Helper()
	s, _ := open(t)
	return made(t, s, told...)
}

// P10.3: files that come, go and change, and folders with them.
func TestApply(t *testing.T) {
	s, _ := open(t)
	keepDigits(t, s)
	id := made(t, s, "a", "1", "b/c/d", "1", "b/e", "2", "f/g", "3")
	wantApplied(t, s, id, nil, id)
	wantApplied(t, s, id, listed("a", "1", "2"), sure(t, "a", "2", "b/c/d", "1", "b/e", "2", "f/g", "3"))
	wantApplied(t, s, id, listed("a", "1", ""), sure(t, "b/c/d", "1", "b/e", "2", "f/g", "3"))
	wantApplied(t, s, id, listed("b/c/d", "1", ""), sure(t, "a", "1", "b/e", "2", "f/g", "3"))
	wantApplied(t, s, id, listed("b/c/a/x", "", "4", "b/c/d", "1", "5", "b/c/d.", "", "6", "f/g", "3", "", "z/y/x", "", "7"), sure(t, "a", "1", "b/c/a/x", "4", "b/c/d", "5", "b/c/d.", "6", "b/e", "2", "z/y/x", "7"))
	wantApplied(t, s, id, listed("a", "1", "", "b/c/d", "1", "", "b/e", "2", "", "f/g", "3", ""), sure(t))
	wantApplied(t, s, id, listed("0", "", "9", "a", "1", "", "b/c/d", "1", "", "b/e", "2", "", "f/g", "3", ""), sure(t, "0", "9"))
	empty := made(t, s)
	wantApplied(t, s, empty, nil, empty)
	wantApplied(t, s, empty, listed("a/b/c", "", "1", "a/d", "", "2"), sure(t, "a/b/c", "1", "a/d", "2"))
}

// P10.3: files that become folders, and the other way round.
func TestApplyFileAndFolder(t *testing.T) {
	s, _ := open(t)
	keepDigits(t, s)
	id := made(t, s, "a", "1", "b/c/d", "1", "b/e", "2")
	wantApplied(t, s, id, listed("a", "1", "", "a/x/y", "", "2", "a/z", "", "3"), sure(t, "a/x/y", "2", "a/z", "3", "b/c/d", "1", "b/e", "2"))
	wantApplied(t, s, id, listed("b", "", "4", "b/c/d", "1", "", "b/e", "2", ""), sure(t, "a", "1", "b", "4"))
	wantApplied(t, s, id, listed("b/c", "", "4", "b/c/d", "1", ""), sure(t, "a", "1", "b/c", "4", "b/e", "2"))
	// Files that stay in a folder where one comes, and a file that stays where a folder comes.
	wantNotApplied(t, s, id, listed("b", "", "4"), api.ErrClash)
	wantNotApplied(t, s, id, listed("b", "", "4", "b/c/d", "1", ""), api.ErrClash)
	wantNotApplied(t, s, id, listed("b", "", "4", "b/e", "2", ""), api.ErrClash)
	wantNotApplied(t, s, id, listed("b/c", "", "4"), api.ErrClash)
	wantNotApplied(t, s, id, listed("a/x", "", "4"), api.ErrClash)
	wantNotApplied(t, s, id, listed("b/e/x/y", "", "4"), api.ErrClash)
	wantNotApplied(t, s, id, listed("a", "1", "", "a/x", "", "4", "b/e/x", "", "4"), api.ErrClash)
}

// P10.3: at each path there has to stand what was there.
func TestApplyStale(t *testing.T) {
	s, _ := open(t)
	keepDigits(t, s)
	id := made(t, s, "a", "1", "b/c", "1")
	for _, l := range [][]api.Change{
		listed("a", "2", "1"), listed("a", "2", ""), listed("a", "", "2"), listed("a", "", "1"),
		listed("b", "1", "2"), listed("b", "1", ""), listed("b/c", "2", "3"), listed("b/c", "", "3"),
		listed("b/d", "1", "2"), listed("b/c/d", "1", "2"), listed("a/x", "1", ""), listed("c", "1", ""), listed("c/d", "1", ""),
		listed("a", "1", "2", "b/c", "2", "3"), listed("a", "2", "1", "b/c", "1", "3"),
		{{Path: "b", Was: idOf(api.Tree{Entries: []api.Entry{file("c", digit("1"))}}), Now: digit("1")}},
	} {
		wantNotApplied(t, s, id, l, api.ErrStale)
	}
}

// P10.3: what is no blob of the store, the first of them.
func TestApplyNoBlob(t *testing.T) {
	s, _ := open(t)
	id := made(t, s, "a", "1", "b/c", "1")
	commit := keep(t, s, api.Commit{Tree: 1})
	none, kind := missing, id
	one, two := api.Change{Path: "x"}, api.Change{Path: "y"}
	one.Now, two.Now = none, kind
	wantNotApplied(t, s, id, []api.Change{one, two}, api.ErrNone)
	one.Now, two.Now = kind, none
	wantNotApplied(t, s, id, []api.Change{one, two}, api.ErrKind)
	one.Now, two.Now = commit, none
	wantNotApplied(t, s, id, []api.Change{one, two}, api.ErrKind)
	one.Now = digit("1")
	wantNotApplied(t, s, id, []api.Change{one, two}, api.ErrNone)
	// By the list's order, not by the order in which trees are made.
	wantNotApplied(t, s, id, []api.Change{{Path: "p", Now: none}, {Path: "q/r", Now: kind}}, api.ErrNone)
	wantNotApplied(t, s, id, []api.Change{{Path: "a", Was: digit("1")}, {Path: "q/r", Now: kind}}, api.ErrKind)
}

// P10.3: of several errors the one that is named first, wherever in the list it is.
func TestApplyOrder(t *testing.T) {
	s, _ := open(t)
	keepDigits(t, s)
	blob := digit("1")
	var entries []api.Entry
	for k := range api.MaxEntries {
		entries = append(entries, file(strconv.Itoa(1000+k), blob))
	}
	id := keepTree(t, s, folder("d", keepTree(t, s, entries...)), file("m", blob), folder("t", keepTree(t, s, entries...)))
	wrong := keepTree(t, s, file("a", missing))
	stale := func(path string) api.Change { return api.Change{Path: path, Was: missing, Now: blob} }
	none := func(path string) api.Change { return api.Change{Path: path, Now: missing} }
	clash := api.Change{Path: "m/x", Now: blob}
	long := func(path string) api.Change { return api.Change{Path: path + "/x", Now: blob} }
	wantNotApplied(t, s, wrong, []api.Change{stale("a"), stale("a")}, api.ErrArg)
	wantNotApplied(t, s, wrong, listed("a", "1", "2", "a/b", "1", "2"), api.ErrClash)
	wantNotApplied(t, s, wrong, many(api.MaxChanges+1), api.ErrLong)
	wantNotApplied(t, s, wrong, []api.Change{stale("a"), none("b")}, api.ErrNone)
	wantNotApplied(t, s, keepTree(t, s, file("a", id)), []api.Change{stale("a"), none("b")}, api.ErrKind)
	wantNotApplied(t, s, id, []api.Change{none("a"), long("d"), clash, stale("z")}, api.ErrStale)
	wantNotApplied(t, s, id, []api.Change{stale("a"), long("d"), clash, none("z")}, api.ErrStale)
	wantNotApplied(t, s, id, []api.Change{long("d"), clash, none("z")}, api.ErrNone)
	wantNotApplied(t, s, id, []api.Change{none("a"), clash, long("t")}, api.ErrNone)
	wantNotApplied(t, s, id, []api.Change{clash, long("t")}, api.ErrClash)
	wantNotApplied(t, s, id, []api.Change{long("d"), clash}, api.ErrClash)
	wantNotApplied(t, s, id, []api.Change{long("d")}, api.ErrLong)
	wantNotApplied(t, s, id, []api.Change{long("t")}, api.ErrLong)
	wantNotApplied(t, s, id, []api.Change{{Path: "a/b/c", Now: blob}, long("t")}, api.ErrLong)
}

// P10.3: trees that are not sound, and an empty list.
func TestApplyUnsound(t *testing.T) {
	s, _ := open(t)
	for _, id := range broken(t, s) {
		wantNotApplied(t, s, id, nil, tree.Sound(s, id))
		wantNotApplied(t, s, id, listed("zz", "", "1"), tree.Sound(s, id))
	}
}

// P10.3: MaxEntries in what comes, whatever stood there by then, in the root and in a folder.
func TestApplyEntries(t *testing.T) {
	s, _ := open(t)
	blob := keepBlob(t, s, "1")
	for _, within := range []string{"", "p/", "p/q/"} {
		var l []api.Change
		for k := range api.MaxEntries + 1 {
			l = append(l, api.Change{Path: within + strconv.Itoa(1000+k), Now: blob})
		}
		empty := made(t, s)
		wantNotApplied(t, s, empty, l, api.ErrLong)
		full, err := change.Apply(s, empty, l[:api.MaxEntries])
		if err != api.OK {
			t.Fatalf("Apply: %d", err)
		}
		wantNotApplied(t, s, full, l[api.MaxEntries:], api.ErrLong)
		wantNotApplied(t, s, full, []api.Change{{Path: within + "1000a/b", Now: blob}}, api.ErrLong)
		for _, gone := range []int{0, 100, api.MaxEntries - 1} {
			moved := []api.Change{{Path: l[gone].Path, Was: blob}, l[api.MaxEntries]}
			kept := slices.Delete(slices.Clone(l), gone, gone+1)
			asked, _ := change.Apply(s, empty, kept)
			wantApplied(t, s, full, moved, asked)
		}
	}
}

// P10.3: a list of MaxChanges, on a tree with more files than can be gone through.
func TestApplyMany(t *testing.T) {
	s, _ := open(t)
	blob, other := keepBlob(t, s, "1"), keepBlob(t, s, "2")
	id := wide(t, s, made(t, s, "x", "1"), 15)
	var l []api.Change
	for k := range api.MaxChanges {
		deep := strings.Repeat("1000/", 11) + strings.Join([]string{"1000", "1000", strconv.Itoa(1000 + k/256), strconv.Itoa(1000 + k%256), "x"}, "/")
		l = append(l, api.Change{Path: deep, Was: blob, Now: other})
	}
	out, err := change.Apply(s, id, l)
	if err != api.OK {
		t.Fatalf("Apply: %d", err)
	}
	if back, err := change.Between(s, id, out, api.MaxChanges); !slices.Equal(back, l) || err != api.OK {
		t.Errorf("Between: %d changes, %d", len(back), err)
	}
	turned, _ := change.Turn(l)
	wantApplied(t, s, out, turned, id)
	wantApplied(t, s, id, listed(strings.Repeat("1255/", 15)+"x", "1", ""), without(t, s, id, strings.Repeat("1255/", 15)+"x"))
}

// without is the tree without what stands at a path.
func without(t *testing.T, s *store.Store, id api.Id, path string) api.Id {
	t.Helper()
	out, err := tree.Remove(s, id, path)
	if err != api.OK {
		t.Fatalf("Remove: %d", err)
	}
	return out
}

// P10.3: only trees that are new are put in, each once; what is there already needs no room.
func TestApplyPutsFew(t *testing.T) {
	s, _ := open(t)
	keepDigits(t, s)
	id := made(t, s, "a/b/c", "1", "d/e", "1", "f/g", "1")
	before := s.Len()
	l := listed("a/b/c", "1", "2", "a/b/d", "", "2", "d/e", "1", "", "d.", "", "3")
	out, err := change.Apply(s, id, l)
	if more := s.Len() - before; err != api.OK || more != 3 {
		t.Errorf("Apply put in %d objects, %d", more, err)
	}
	wantApplied(t, s, id, l, out)
	turned, _ := change.Turn(l)
	wantApplied(t, s, out, turned, id)
	if more := s.Len() - before; more != 3 {
		t.Errorf("Apply there and back put in %d objects", more)
	}
}

// Blobs that have the ids of trees.
const (
	blobLikeEmpty = "\x00\x46\x28\x0a\x3f\xc3\x7b\x34\x57" // of the empty one
	blobLikeX     = "\x00\xf4\xad\x2f\xde\x88\xee\x97\x7b" // of x, the blob of 31
)

// P10.3: ErrCollision, where a tree that comes has the id of a blob.
func TestApplyCollision(t *testing.T) {
	s, _ := open(t)
	keepBlob(t, s, blobLikeEmpty)
	keepBlob(t, s, blobLikeX)
	id := made(t, s, "y", "1")
	wantNotApplied(t, s, id, listed("y", "1", ""), api.ErrCollision)
	wantNotApplied(t, s, id, listed("x", "", "1", "y", "1", ""), api.ErrCollision)
	wantNotApplied(t, s, id, listed("a/b/x", "", "1"), api.ErrCollision)
	wantNotApplied(t, s, id, listed("a/b/x", "", "1", "y/z", "", "1"), api.ErrClash)
	// Not where the empty folder would only be on the way.
	two := made(t, s, "a/b", "1", "y", "1")
	wantApplied(t, s, two, listed("a/b", "1", ""), id)
}

// P10.3: a store that is full takes no new tree, but has those that are there.
func TestApplyFull(t *testing.T) {
	s, _ := open(t)
	one, two := made(t, s, "a", "1", "b", "1"), made(t, s, "a", "2", "b", "1")
	for k := 0; s.Len() < api.MaxObjects; k++ {
		keepBlob(t, s, strconv.Itoa(1000000+k))
	}
	wantApplied(t, s, one, listed("a", "1", "2"), two)
	wantApplied(t, s, two, nil, two)
	wantNotApplied(t, s, one, listed("a", "1", ""), api.ErrLong)
	wantNotApplied(t, s, one, listed("a", "1", "3"), api.ErrNone)
}

// R2, P10.3: cut at each raw write, mended, and applied again.
func TestApplyCut(t *testing.T) {
	l := listed("a/b", "1", "2", "c/d/e", "", "2", "f", "1", "")
	asked := sure(t, "a/b", "2", "c/d/e", "2", "g", "1")
	for cut := 0; ; cut++ {
		d := disk.New()
		s := openDisk(t, d)
		id := made(t, s, "a/b", "1", "f", "1", "g", "1")
		keepBlob(t, s, "2")
		d.Cut(cut)
		out, err := change.Apply(s, id, l)
		if err == api.OK {
			if out != asked || cut < 4 {
				t.Errorf("cut at %d: %x", cut, out)
			}
			return
		}
		if out != 0 || err != api.ErrCut {
			t.Fatalf("cut at %d: %x %d", cut, out, err)
		}
		d.Mend()
		s = openDisk(t, d)
		wantApplied(t, s, id, l, asked)
	}
}

// R3: the list that is handed in stays.
func TestApplySharesNothing(t *testing.T) {
	s, _ := open(t)
	keepDigits(t, s)
	id := made(t, s, "a", "1", "b", "1")
	room := listed("a", "1", "2", "b", "1", "", "b/c", "", "3", "z", "1", "2")
	before := slices.Clone(room)
	wantApplied(t, s, id, room[:3], sure(t, "a", "2", "b/c", "3"))
	if !slices.Equal(room, before) {
		t.Errorf("left %v", room)
	}
}
