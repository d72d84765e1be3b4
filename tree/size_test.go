package tree_test

import (
	"strings"
	"testing"

	"espalier/api"
	"espalier/disk"
	"espalier/object"
	"espalier/store"
	"espalier/tree"
)

func wantSize(t *testing.T, s *store.Store, id api.Id, height, width, files int) {
	t.Helper()
	if h, w, n, err := tree.Size(s, id); h != height || w != width || n != files || err != api.OK {
		t.Errorf("Size(%x): %d %d %d, error %d, not %d %d %d", id, h, w, n, err, height, width, files)
	}
}

func wantNoSize(t *testing.T, s *store.Store, id api.Id, asked api.Errno) {
	t.Helper()
	if h, w, n, err := tree.Size(s, id); h != 0 || w != 0 || n != 0 || err != asked {
		t.Errorf("Size(%x): %d %d %d, error %d, not %d", id, h, w, n, err, asked)
	}
}

func wantSound(t *testing.T, s *store.Store, id api.Id, asked api.Errno) {
	t.Helper()
	if err := tree.Sound(s, id); err != asked {
		t.Errorf("Sound(%x): %d, not %d", id, err, asked)
	}
}

// P9.7: the longest path by names, and the one by bytes, need not be one.
func TestSize(t *testing.T) {
	s, _ := open(t)
	wantSize(t, s, grown(t, s), 0, 0, 0)
	wantSize(t, s, grown(t, s, "a", ""), 1, 1, 1)
	wantSize(t, s, grown(t, s, "a/b/c", "1", "long/and more", "2", "é", "3"), 3, 13, 3)
	wantSize(t, s, grown(t, s, "é", "3"), 1, 2, 1)
	for _, id := range []api.Id{grown(t, s), grown(t, s, "a/b/c", "1", "long/and more", "2")} {
		wantSound(t, s, id, api.OK)
	}
}

// P9.7: a tree counts at each place at which it stands.
func TestSizeShared(t *testing.T) {
	s, _ := open(t)
	blob := keepBlob(t, s, "1")
	id := keepTree(t, s, file("a", blob), file("bb", blob))
	id = keepTree(t, s, folder("x", id), folder("yyy", id))
	wantSize(t, s, id, 2, 6, 4)
	id = keepTree(t, s, folder("x", id), file("y", blob), folder("z", idOf(api.Tree{Entries: []api.Entry{file("a", blob), file("bb", blob)}})))
	wantSize(t, s, id, 3, 8, 7)
	wantSound(t, s, id, api.OK)
}

// P9.7: what has no files has no height and no width, wherever it stands.
func TestSizeWithoutFiles(t *testing.T) {
	s, _ := open(t)
	bare := nested(t, s, keepTree(t, s), "long", 5)
	wantSize(t, s, bare, 0, 0, 0)
	wantSize(t, s, keepTree(t, s, file("a", missing), folder("b", bare)), 1, 1, 1)
	wantSize(t, s, keepTree(t, s, folder("b", bare), folder("c", keepTree(t, s, file("a", missing)))), 2, 3, 1)
}

// P9.7: which trees are read, and that no blobs are; the first that is refused is told.
func TestSizeDamaged(t *testing.T) {
	s, _ := open(t)
	blob := keepBlob(t, s, "1")
	commit := keep(t, s, api.Commit{Tree: blob})
	wantSize(t, s, keepTree(t, s, file("a", missing), file("b", keepTree(t, s)), file("c", commit)), 1, 1, 3)
	for wrong, asked := range map[api.Id]api.Errno{0: api.ErrNone, missing: api.ErrNone, blob: api.ErrKind, commit: api.ErrKind} {
		wantNoSize(t, s, wrong, asked)
		wantSound(t, s, wrong, asked)
	}
	gone, none := folder("a", missing), folder("b", blob)
	wantNoSize(t, s, keepTree(t, s, file("0", blob), gone, none), api.ErrNone)
	wantNoSize(t, s, keepTree(t, s, none, folder("c", missing)), api.ErrKind)
	within := keepTree(t, s, none)
	wantNoSize(t, s, keepTree(t, s, folder("0", within), gone), api.ErrKind)
	wantNoSize(t, s, keepTree(t, s, gone, folder("b", within)), api.ErrNone)
}

// P9.7: trees that stand in themselves: told where that is met, ahead of what stands behind it.
func TestInThemselves(t *testing.T) {
	s, _ := open(t)
	for _, id := range []api.Id{selfTree(t, s), twoTrees(t, s)} {
		blob := keepBlob(t, s, "1")
		wantNoSize(t, s, id, api.ErrLong)
		wantSound(t, s, id, api.ErrLong)
		outer := keepTree(t, s, file("a", blob), folder("b", id), folder("c", missing))
		wantNoSize(t, s, outer, api.ErrLong)
		wantSound(t, s, outer, api.ErrLong)
		outer = keepTree(t, s, folder("a", missing), folder("b", id))
		wantNoSize(t, s, outer, api.ErrNone)
		wantSound(t, s, outer, api.ErrNone)
		outer = keepTree(t, s, folder("a", keepTree(t, s)), folder("b", id))
		wantNoSize(t, s, outer, api.ErrLong)
		wantSound(t, s, outer, api.ErrBroken)
	}
}

// twice is a tree with two folders of one tree, and perhaps a file.
func twice(t *testing.T, s *store.Store, id api.Id, more ...api.Entry) api.Id {
	t.Helper()
	return keepTree(t, s, append([]api.Entry{folder("a", id), folder("b", id)}, more...)...)
}

// P9.7: files are counted up to 2^62.
func TestSizeOfVeryMany(t *testing.T) {
	s, _ := open(t)
	c := file("c", keepBlob(t, s, "1"))
	even, odd := keepTree(t, s, c), keepTree(t, s, c)
	for range 61 {
		even, odd = twice(t, s, even), twice(t, s, odd, c)
	}
	wantSize(t, s, even, 62, 123, 1<<61)
	wantSize(t, s, odd, 62, 123, 1<<62-1)
	wantSize(t, s, twice(t, s, even), 63, 125, 1<<62)
	wantSize(t, s, keepTree(t, s, folder("a", odd), c), 63, 125, 1<<62)
	wantSize(t, s, twice(t, s, even, c), 63, 125, 1<<62)
	wantSize(t, s, twice(t, s, odd), 63, 125, 1<<62)
	wantSize(t, s, twice(t, s, twice(t, s, even)), 64, 127, 1<<62)
	wantSize(t, s, wideFolders(t, s, twice(t, s, odd), 3), 66, 125+3*11, 1<<62)
	wantSound(t, s, even, api.ErrLong)
}

// P9.7: paths may be too long, however many trees stand in one another.
func TestSizeDeep(t *testing.T) {
	s := deepStore(t, api.MaxObjects)
	var last api.Id
	for id := range s.Since(api.MaxObjects - 1) {
		last = id
	}
	wantSize(t, s, last, api.MaxObjects, 2*api.MaxObjects-1, 1)
	wantSound(t, s, last, api.ErrNone)
	wantNoFiles(t, s, last, 9, api.ErrLong)
}

// deepStore is a store of that many trees, each in the next one, around a file that is not there.
func deepStore(t *testing.T, count int) *store.Store {
	t.Helper()
	s := openDisk(t, disk.New())
	id := keepTree(t, s, file("a", missing))
	for range count - 1 {
		id = keepTree(t, s, folder("a", id))
	}
	return s
}

// P9.7: what is wrong with one entry, at the root and in a folder.
func TestSoundEntries(t *testing.T) {
	s, _ := open(t)
	blob, empty := keepBlob(t, s, "1"), keepTree(t, s)
	some, commit := keepTree(t, s, file("a", blob)), keep(t, s, api.Commit{Tree: empty})
	for _, c := range []struct {
		e     api.Entry
		asked api.Errno
	}{
		{file("m", blob), api.OK}, {folder("m", some), api.OK},
		{file("m", missing), api.ErrNone}, {folder("m", missing), api.ErrNone},
		{file("m", empty), api.ErrKind}, {file("m", some), api.ErrKind}, {file("m", commit), api.ErrKind},
		{folder("m", blob), api.ErrKind}, {folder("m", commit), api.ErrKind}, {folder("m", empty), api.ErrBroken},
	} {
		one := keepTree(t, s, c.e)
		wantSound(t, s, one, c.asked)
		wantSound(t, s, keepTree(t, s, folder("a", some), file("b", blob), c.e, file("z", blob)), c.asked)
		wantSound(t, s, keepTree(t, s, folder("a", some), folder("b", one), folder("c", one)), c.asked)
	}
	wantSound(t, s, empty, api.OK)
}

// P9.7: the first that is wrong is told, a folder's tree ahead of the next entry; paths that are too long behind all else.
func TestSoundOrder(t *testing.T) {
	s, _ := open(t)
	blob, empty := keepBlob(t, s, "1"), keepTree(t, s)
	wrong := []struct {
		id     api.Id
		folder bool
		asked  api.Errno
	}{{missing, false, api.ErrNone}, {missing, true, api.ErrNone}, {empty, false, api.ErrKind}, {blob, true, api.ErrKind}, {empty, true, api.ErrBroken}, {selfTree(t, s), true, api.ErrLong}}
	long := nested(t, s, keepTree(t, s, file("a", blob)), "a", 16)
	for _, one := range wrong {
		first := api.Entry{Name: "m", Folder: one.folder, Id: one.id}
		for _, other := range wrong {
			second := api.Entry{Name: "n", Folder: other.folder, Id: other.id}
			wantSound(t, s, keepTree(t, s, first, second), one.asked)
			wantSound(t, s, keepTree(t, s, folder("a", keepTree(t, s, first)), second), one.asked)
			wantSound(t, s, keepTree(t, s, first, folder("n", keepTree(t, s, second))), one.asked)
		}
		wantSound(t, s, keepTree(t, s, folder("a", long), first), one.asked)
	}
	wantSound(t, s, keepTree(t, s, folder("a", long), file("b", blob)), api.ErrLong)
}

// P9.7: as high and as wide as may be, and one more.
func TestSoundLimits(t *testing.T) {
	s, _ := open(t)
	blob := keepBlob(t, s, "1")
	leaf := keepTree(t, s, file("a", blob))
	wantSound(t, s, nested(t, s, leaf, "a", 15), api.OK)
	wantSound(t, s, nested(t, s, leaf, "a", 16), api.ErrLong)
	wide := strings.Repeat("b", 32)
	for rest, asked := range map[string]api.Errno{"bb": api.OK, "bbb": api.ErrLong} {
		id := nested(t, s, keepTree(t, s, file(rest, blob)), wide, 6)
		wantSound(t, s, id, asked)
		wantSize(t, s, id, 7, 198+len(rest), 1)
	}
	// The longest by names, and another one by bytes.
	wantSound(t, s, keepTree(t, s, folder("a", nested(t, s, leaf, "a", 14)), folder(wide, nested(t, s, keepTree(t, s, file("bb", blob)), wide, 5))), api.OK)
}

// P9.7: Size and Sound put nothing in.
func TestSizePutsNothingIn(t *testing.T) {
	s, _ := open(t)
	blob := keepBlob(t, s, "1")
	id := keepTree(t, s, file("a", blob), folder("b", keepTree(t, s, file("a", blob))))
	before := s.Len()
	wantSize(t, s, id, 2, 3, 2)
	wantSound(t, s, id, api.OK)
	wantFiles(t, s, id, "a", "1", "b/a", "1")
	wantNew(t, "Size", s, before, 0)
	if o, err := s.Tree(id); err != api.OK || object.Check(o) != api.OK {
		t.Errorf("%v %d", o, err)
	}
}
