package tree_test

import (
	"math"
	"slices"
	"strings"
	"testing"

	"espalier/api"
	"espalier/store"
	"espalier/tree"
)

func wantNoFiles(t *testing.T, s *store.Store, id api.Id, most int, asked api.Errno) {
	t.Helper()
	if list, err := tree.Files(s, id, most); err != asked || list != nil {
		t.Errorf("Files(%x, %d): %v %d, not error %d", id, most, list, err, asked)
	}
}

// wantWalked wants Walk to tell just these paths.
func wantWalked(t *testing.T, s *store.Store, id api.Id, asked ...string) {
	t.Helper()
	var paths []string
	for path := range tree.Walk(s, id) {
		paths = append(paths, path)
	}
	if !slices.Equal(paths, asked) {
		t.Errorf("Walk(%x): %q, not %q", id, paths, asked)
	}
}

// P9.6: the order is by names, not by the bytes of the paths.
func TestFilesOrder(t *testing.T) {
	s, _ := open(t)
	id := grown(t, s, "b", "1", "a.b", "2", "a/b", "3", "a/b.c", "4", "a b/c", "5", "ab", "6", "a/c/d", "7", "B", "8", "é", "9", "a/c!", "0")
	wantFiles(t, s, id, "B", "8", "a/b", "3", "a/b.c", "4", "a/c/d", "7", "a/c!", "0", "a b/c", "5", "a.b", "2", "ab", "6", "b", "1", "é", "9")
	wantFiles(t, s, emptyId())
}

// P9.6: as many as may be, and one more.
func TestFilesMost(t *testing.T) {
	s, _ := open(t)
	id := grown(t, s, "a/b", "1", "a/c", "2", "d", "3")
	for _, most := range []int{3, 4, math.MaxInt} {
		if list, err := tree.Files(s, id, most); err != api.OK || len(list) != 3 {
			t.Errorf("Files at most %d: %v %d", most, list, err)
		}
	}
	for _, most := range []int{0, 1, 2} {
		wantNoFiles(t, s, id, most, api.ErrLong)
	}
	for _, most := range []int{-1, math.MinInt} {
		wantNoFiles(t, s, id, most, api.ErrArg)
		wantNoFiles(t, s, missing, most, api.ErrArg)
	}
	if list, err := tree.Files(s, emptyId(), 0); err != api.OK || len(list) != 0 {
		t.Errorf("Files of the empty tree: %v %d", list, err)
	}
}

// P9.6: all trees are read, in order, and no blobs; what there is too much of ahead of a tree that is refused is told first.
func TestFilesDamaged(t *testing.T) {
	s, _ := open(t)
	blob := keepBlob(t, s, "1")
	for _, c := range []struct {
		e     api.Entry
		asked api.Errno
	}{{folder("c", missing), api.ErrNone}, {folder("c", blob), api.ErrKind}, {folder("c", keep(t, s, api.Commit{Tree: blob})), api.ErrKind}} {
		within := keepTree(t, s, file("a", blob), c.e, file("d", blob))
		id := keepTree(t, s, file("a", missing), folder("b", within), file("c", blob))
		for _, most := range []int{2, 3, 99} {
			wantNoFiles(t, s, id, most, c.asked)
		}
		wantNoFiles(t, s, id, 1, api.ErrLong)
		wantNoFiles(t, s, id, 0, api.ErrLong)
		wantWalked(t, s, id, "a", "b/a")
	}
	for wrong, asked := range map[api.Id]api.Errno{0: api.ErrNone, missing: api.ErrNone, blob: api.ErrKind} {
		wantNoFiles(t, s, wrong, 9, asked)
		wantWalked(t, s, wrong)
	}
	id := keepTree(t, s, file("a", missing), folder("b", keepTree(t, s)), file("c", keepTree(t, s)))
	wantWalked(t, s, id, "a", "c")
	if list, err := tree.Files(s, id, 2); err != api.OK || !slices.Equal(list, []api.File{{Path: "a", Blob: missing}, {Path: "c", Blob: emptyId()}}) {
		t.Errorf("Files: %v %d", list, err)
	}
}

// nested is a tree in so many folders of one name.
func nested(t *testing.T, s *store.Store, id api.Id, name string, times int) api.Id {
	t.Helper()
	for range times {
		id = keepTree(t, s, folder(name, id))
	}
	return id
}

// Words, P9.6: paths of MaxDepth names and of MaxPath bytes, and of one more: of folders, too, whose trees are not asked for then.
func TestFilesLong(t *testing.T) {
	s, _ := open(t)
	blob := keepBlob(t, s, "1")
	leaf := keepTree(t, s, file("a", blob))
	wantFiles(t, s, nested(t, s, leaf, "a", 15), strings.Repeat("a/", 15)+"a", "1")
	wantNoFiles(t, s, nested(t, s, leaf, "a", 16), 9, api.ErrLong)
	ahead := keepTree(t, s, file("0", blob), folder("a", nested(t, s, leaf, "a", 15)), file("b", blob))
	wantNoFiles(t, s, ahead, 9, api.ErrLong)
	wantWalked(t, s, ahead, "0")

	wide := strings.Repeat("b", 32)
	end := nested(t, s, keepTree(t, s, file("bb", blob)), wide, 6)
	wantFiles(t, s, end, strings.Repeat(wide+"/", 6)+"bb", "1")
	wantNoFiles(t, s, nested(t, s, keepTree(t, s, file("bbb", blob)), wide, 6), 9, api.ErrLong)

	for _, within := range []api.Id{keepTree(t, s), missing, blob} {
		wantNoFiles(t, s, nested(t, s, within, "a", 17), 9, api.ErrLong)
		wantNoFiles(t, s, nested(t, s, keepTree(t, s, folder("bbb", within)), wide, 6), 9, api.ErrLong)
	}
	for _, id := range []api.Id{nested(t, s, keepTree(t, s), "a", 16), nested(t, s, keepTree(t, s, folder("bb", emptyId())), wide, 6)} {
		if list, err := tree.Files(s, id, 0); err != api.OK || len(list) != 0 {
			t.Errorf("Files: %v %d", list, err)
		}
	}
}

// R1, P9.6: trees that stand in themselves end where paths are too long.
func TestFilesInThemselves(t *testing.T) {
	s, _ := open(t)
	id := selfTree(t, s)
	var asked []string
	for k := range 16 {
		asked = append(asked, strings.Repeat("a/", k)+"0")
	}
	wantWalked(t, s, id, asked...)
	wantNoFiles(t, s, id, 99, api.ErrLong)
	wantWalked(t, s, twoTrees(t, s))
	wantNoFiles(t, s, 5, 99, api.ErrLong)
}

// wideFolders is folders of one tree in each of the others, by names of unlike lengths.
func wideFolders(t *testing.T, s *store.Store, id api.Id, levels int) api.Id {
	t.Helper()
	for range levels {
		var entries []api.Entry
		for k := range 250 {
			entries = append(entries, folder(string(rune('a'+k%10))+strings.Repeat("x", k/25), id))
		}
		slices.SortFunc(entries, func(a, b api.Entry) int { return strings.Compare(a.Name, b.Name) })
		entries = slices.CompactFunc(entries, func(a, b api.Entry) bool { return a.Name == b.Name })
		id = keepTree(t, s, entries...)
	}
	return id
}

// R1: folders that stand in more places than can be gone through, with files and without.
func TestFilesOfVeryMany(t *testing.T) {
	s, _ := open(t)
	blob := keepBlob(t, s, "1")
	bare := wideFolders(t, s, keepTree(t, s), 15)
	id := keepTree(t, s, folder("a", bare), file("b", blob))
	wantFiles(t, s, id, "b", "1")
	id = keepTree(t, s, folder("a", bare), folder("b", missing))
	wantNoFiles(t, s, id, 9, api.ErrNone)
	id = keepTree(t, s, file("0", blob), folder("a", wideFolders(t, s, bare, 1)), file("b", blob))
	wantNoFiles(t, s, id, 9, api.ErrLong)
	wantWalked(t, s, id, "0")

	full := wideFolders(t, s, keepTree(t, s, file("f", blob)), 15)
	wantNoFiles(t, s, full, 1000, api.ErrLong)
	count := 0
	for range tree.Walk(s, full) {
		if count++; count == 1000 {
			break
		}
	}
}

// P9.6: a tree without files at two places, at the second of which its paths are too long.
func TestFilesBareTwice(t *testing.T) {
	s, _ := open(t)
	blob := keepBlob(t, s, "1")
	bare := nested(t, s, keepTree(t, s), "x", 5)
	id := keepTree(t, s, folder("a", bare), folder("b", nested(t, s, bare, "y", 10)), file("c", blob))
	wantFiles(t, s, id, "c", "1")
	id = keepTree(t, s, folder("a", bare), file("a.", blob), folder("b", nested(t, s, bare, "y", 11)), file("c", blob))
	wantNoFiles(t, s, id, 9, api.ErrLong)
	wantWalked(t, s, id, "a.")
	wide := nested(t, s, bare, strings.Repeat("y", 32), 5)
	id = keepTree(t, s, folder("a", bare), folder(strings.Repeat("b", 24), wide), file("c", blob))
	wantFiles(t, s, id, "c", "1")
	id = keepTree(t, s, folder("a", bare), folder(strings.Repeat("b", 26), wide), file("c", blob))
	wantNoFiles(t, s, id, 9, api.ErrLong)

	// Paths to it of one size, and of one number of names.
	id = keepTree(t, s, folder(strings.Repeat("a", 23), bare), folder("b", nested(t, s, bare, "y", 11)), file("c", blob))
	wantNoFiles(t, s, id, 9, api.ErrLong)
	id = keepTree(t, s, folder("a", nested(t, s, bare, "y", 5)), folder(strings.Repeat("b", 26), wide), file("c", blob))
	wantNoFiles(t, s, id, 9, api.ErrLong)
}

// R6: Walk is left early, gone through again, and tells what there is when that begins.
func TestWalkAgain(t *testing.T) {
	s, _ := open(t)
	blob := keepBlob(t, s, "1")
	late := api.Tree{Entries: []api.Entry{file("x", blob)}}
	id := keepTree(t, s, file("a", blob), file("b", blob), folder("c", idOf(late)))
	walk := tree.Walk(s, id)
	for range 2 {
		for path := range walk {
			if path != "a" {
				t.Errorf("first %q", path)
			}
			break
		}
	}
	var paths []string
	for path := range walk {
		keep(t, s, late)
		keepBlob(t, s, path)
		paths = append(paths, path)
		for inner := range walk {
			paths = append(paths, inner)
		}
	}
	if asked := []string{"a", "a", "b", "c/x", "b", "a", "b", "c/x"}; !slices.Equal(paths, asked) {
		t.Errorf("told %q, not %q", paths, asked)
	}
	wantWalked(t, s, id, "a", "b", "c/x")

	// Ahead of the tree itself, too.
	other := api.Tree{Entries: []api.Entry{file("x", blob), file("y", blob)}}
	early := tree.Walk(s, idOf(other))
	for range early {
		t.Error("told of what is not there")
	}
	keep(t, s, other)
	count := 0
	for range early {
		count++
	}
	if count != 2 {
		t.Errorf("told %d files", count)
	}
}

// R3: what Files answers is new memory.
func TestFilesShareNothing(t *testing.T) {
	s, _ := open(t)
	id := grown(t, s, "a", "1", "b", "2", "c", "3")
	for range 2 {
		list, _ := tree.Files(s, id, 3)
		for k := range list[:cap(list)] {
			list[:cap(list)][k] = api.File{Path: "spoiled"}
		}
		wantFiles(t, s, id, "a", "1", "b", "2", "c", "3")
	}
}
