package tree_test

import (
	"math/rand"
	"slices"
	"strconv"
	"strings"
	"testing"

	"espalier/api"
	"espalier/tree"
)

// filesOf is files of one blob.
func filesOf(blob api.Id, paths ...string) []api.File {
	var files []api.File
	for _, path := range paths {
		files = append(files, api.File{Path: path, Blob: blob})
	}
	return files
}

// P9.5: the tree of files, in whatever order they come; the list stays as it is.
func TestOf(t *testing.T) {
	s, _ := open(t)
	texts := []string{"a/b", "1", "a/c/d", "2", "a.b", "3", "a b", "4", "e", "5", "a/c.d", "6"}
	asked := grown(t, s, texts...)
	var files []api.File
	for k := 0; k < len(texts); k += 2 {
		files = append(files, api.File{Path: texts[k], Blob: idOf(blobOf(texts[k+1]))})
	}
	r := rand.New(rand.NewSource(95))
	for range 50 {
		r.Shuffle(len(files), func(i, j int) { files[i], files[j] = files[j], files[i] })
		list := append(slices.Clone(files), api.File{Path: "room"})
		want(t, "Of", asked)(tree.Of(s, list[:len(files)]))
		if !slices.Equal(list[:len(files)], files) || list[len(files)].Path != "room" {
			t.Fatalf("the list was changed: %v", list)
		}
	}
	s, _ = open(t)
	want(t, "Of nothing", emptyId())(tree.Of(s, nil))
	wantNew(t, "Of nothing", s, 0, 1)
	want(t, "Of an empty list", emptyId())(tree.Of(s, []api.File{}))
}

// P9.5: trees are put in from below, and nothing else.
func TestOfFromBelow(t *testing.T) {
	s, _ := open(t)
	blob := keepBlob(t, s, "1")
	before := s.Len()
	id, _ := tree.Of(s, filesOf(blob, "z", "a/b/c", "a/d", "e/c"))
	c := api.Tree{Entries: []api.Entry{file("c", blob)}}
	a := api.Tree{Entries: []api.Entry{folder("b", idOf(c)), file("d", blob)}}
	top := api.Tree{Entries: []api.Entry{folder("a", idOf(a)), folder("e", idOf(c)), file("z", blob)}}
	wantSince(t, s, before, idOf(c), idOf(a), idOf(top))
	if id != idOf(top) {
		t.Errorf("Of: %x", id)
	}
}

// many is paths of that many names.
func many(at string, n int) []string {
	var paths []string
	for k := range n {
		paths = append(paths, at+strconv.Itoa(k))
	}
	return paths
}

// P9.5: the first of the kinds that applies, wherever it stands; then blobs in the list's order, then what is put in.
func TestOfOrder(t *testing.T) {
	s, d := open(t)
	blob := keepBlob(t, s, "1")
	tree1 := keepTree(t, s)
	wrong := []struct {
		asked api.Errno
		files []api.File
	}{
		{api.ErrArg, filesOf(blob, "a//b")},
		{api.ErrArg, filesOf(blob, "")},
		{api.ErrThere, filesOf(blob, "twice", "twice")},
		{api.ErrThere, filesOf(blob, "0/twice", "1", "0/twice")},
		{api.ErrClash, filesOf(blob, "clash", "clash/in")},
		{api.ErrClash, filesOf(blob, "clashes.", "clashes/in/it", "clashes")},
		{api.ErrLong, filesOf(blob, many("long/", 257)...)},
		{api.ErrLong, filesOf(blob, many("longer/a/b/", 300)...)},
		{api.ErrNone, filesOf(missing, "gone")},
		{api.ErrNone, filesOf(0, "nought")},
		{api.ErrCut, filesOf(blob, "new")},
	}
	d.Cut(0)
	before := s.Len()
	for k, one := range wrong {
		wantErr(t, "Of "+one.files[0].Path, one.asked)(tree.Of(s, one.files))
		for _, other := range wrong[k:] {
			if slices.ContainsFunc(one.files, func(f api.File) bool { return slices.Contains(other.files, f) }) {
				continue
			}
			for _, files := range [][]api.File{slices.Concat(one.files, other.files), slices.Concat(other.files, one.files)} {
				wantErr(t, "Of "+one.files[0].Path+" and "+other.files[0].Path, one.asked)(tree.Of(s, files))
			}
		}
	}
	none, kind := filesOf(missing, "m"), filesOf(tree1, "k")
	wantErr(t, "the first blob", api.ErrNone)(tree.Of(s, slices.Concat(none, kind)))
	wantErr(t, "the first blob", api.ErrKind)(tree.Of(s, slices.Concat(kind, none)))
	wantErr(t, "the first blob", api.ErrKind)(tree.Of(s, slices.Concat(filesOf(blob, "z"), kind, filesOf(blob, "0"), none)))
	wantNew(t, "refused", s, before, 0)
}

// P9.5: of paths that may not be, all are told ahead of all else.
func TestOfWrongPaths(t *testing.T) {
	s, _ := open(t)
	for _, path := range append(wrongPaths(), "") {
		wantErr(t, "Of "+path, api.ErrArg)(tree.Of(s, filesOf(missing, "a", "a", "a/b", path)))
	}
}

// P9.5: as many entries as may be, and one more, at the root and in a folder; paths as long as may be.
func TestOfLimits(t *testing.T) {
	s, _ := open(t)
	blob := keepBlob(t, s, "1")
	for _, at := range []string{"", "in/", "in/it/"} {
		most := filesOf(blob, many(at, 256)...)
		id, err := tree.Of(s, most)
		if err != api.OK {
			t.Fatalf("Of 256 files: %d", err)
		}
		if _, _, files, _ := tree.Size(s, id); files != 256 {
			t.Errorf("%d files", files)
		}
		wantErr(t, "one more file", api.ErrLong)(tree.Of(s, append(most, filesOf(blob, at+"x")...)))
		wantErr(t, "one more folder", api.ErrLong)(tree.Of(s, append(most, filesOf(blob, at+"x/y")...)))
		if _, err := tree.Of(s, append(most[:255:255], filesOf(blob, at+"x/y", at+"x/z")...)); err != api.OK {
			t.Errorf("Of 256 entries and 257 files: %d", err)
		}
	}
	long := filesOf(blob, strings.Repeat("a/", 15)+"a", strings.Repeat(strings.Repeat("b", 32)+"/", 6)+"bb")
	id, err := tree.Of(s, long)
	if got, _ := tree.Files(s, id, 2); err != api.OK || !slices.Equal(got, long) {
		t.Errorf("Of long paths: %v %d", got, err)
	}
}

// P9.5: a store that is full of objects.
func TestOfFullStore(t *testing.T) {
	s := deepStore(t, api.MaxObjects-2)
	blob := keepBlob(t, s, "1")
	wantErr(t, "two trees into room for one", api.ErrLong)(tree.Of(s, filesOf(blob, "x/y")))
	wantNew(t, "the lower one", s, api.MaxObjects-1, 1)
	wantErr(t, "Put into a full store", api.ErrLong)(tree.Put(s, idOf(api.Tree{Entries: []api.Entry{file("y", blob)}}), "z", []byte("2")))
	want(t, "what is there", idOf(api.Tree{Entries: []api.Entry{file("y", blob)}}))(tree.Of(s, filesOf(blob, "y")))
}
