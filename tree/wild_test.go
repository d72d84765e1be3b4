package tree_test

import (
	"cmp"
	"math/rand"
	"slices"
	"strings"
	"testing"

	"espalier/api"
	"espalier/name"
	"espalier/store"
	"espalier/tree"
)

// wild is a store of trees that may lead anywhere but to themselves, and ids of all kinds, some of nothing.
func wild(t *testing.T, r *rand.Rand) (*store.Store, []api.Id) {
	t.Helper()
	s, _ := open(t)
	ids := []api.Id{missing, 0, keepBlob(t, s, "1"), keepBlob(t, s, "2"), keep(t, s, api.Commit{Tree: 1}), keepTree(t, s)}
	first := len(ids)
	parts := []string{"a", "b", "a.", strings.Repeat("l", 32), "m" + strings.Repeat("l", 30)}
	for range 22 {
		entries := map[string]api.Entry{}
		for range r.Intn(4) {
			part := parts[r.Intn(len(parts))]
			id := ids[2]
			if r.Intn(12) == 0 {
				id = ids[r.Intn(len(ids))]
			}
			if id != 0 {
				entries[part] = api.Entry{Name: part, Folder: r.Intn(12) == 0, Id: id}
			}
		}
		if r.Intn(8) > 0 && len(ids) > first {
			part := parts[r.Intn(len(parts))]
			entries[part] = folder(part, ids[len(ids)-1-r.Intn(min(2, len(ids)-first))])
		}
		var list []api.Entry
		for _, e := range entries {
			list = append(list, e)
		}
		slices.SortFunc(list, func(a, b api.Entry) int { return cmp.Compare(a.Name, b.Name) })
		ids = append(ids, keepTree(t, s, list...))
	}
	return s, ids
}

// asTree reads a tree by another call than the package does.
func asTree(s *store.Store, id api.Id) (api.Tree, api.Errno) {
	o, err := s.Get(id)
	if err != api.OK {
		return api.Tree{}, err
	}
	if t, ok := o.(api.Tree); ok {
		return t, api.OK
	}
	return api.Tree{}, api.ErrKind
}

// modelFind is P9.2's answer of a path's names in what an entry leads to.
func modelFind(s *store.Store, e api.Entry, names []string) (api.Entry, api.Errno) {
	if len(names) == 0 {
		return e, api.OK
	}
	if !e.Folder {
		return api.Entry{}, api.ErrNone
	}
	t, err := asTree(s, e.Id)
	if err != api.OK {
		return api.Entry{}, err
	}
	for _, inner := range t.Entries {
		if inner.Name == names[0] {
			return modelFind(s, inner, names[1:])
		}
	}
	return api.Entry{}, api.ErrNone
}

// modelFiles is P9.6's files up to the first error, and it.
func modelFiles(s *store.Store, id api.Id, names []string) ([]api.File, api.Errno) {
	t, err := asTree(s, id)
	if err != api.OK {
		return nil, err
	}
	var files []api.File
	for _, e := range t.Entries {
		at := append(names[:len(names):len(names)], e.Name)
		path := strings.Join(at, "/")
		if len(at) > 16 || len(path) > 200 {
			return files, api.ErrLong
		}
		if !e.Folder {
			files = append(files, api.File{Path: path, Blob: e.Id})
			continue
		}
		more, err := modelFiles(s, e.Id, at)
		files = append(files, more...)
		if err != api.OK {
			return files, err
		}
	}
	return files, api.OK
}

// modelPaths is the paths of all files, however long, up to the first error, and it: Sound's, if that is asked, else Size's.
func modelPaths(s *store.Store, id api.Id, sound bool) ([]string, api.Errno) {
	t, err := asTree(s, id)
	if err != api.OK {
		return nil, err
	}
	var paths []string
	for _, e := range t.Entries {
		if !e.Folder {
			if _, err := s.Blob(e.Id); sound && err != api.OK {
				return nil, err
			}
			paths = append(paths, e.Name)
			continue
		}
		if inner, err := asTree(s, e.Id); sound && err == api.OK && len(inner.Entries) == 0 {
			return nil, api.ErrBroken
		}
		more, err := modelPaths(s, e.Id, sound)
		if err != api.OK {
			return nil, err
		}
		for _, path := range more {
			paths = append(paths, e.Name+"/"+path)
		}
	}
	return paths, api.OK
}

// extent is how long the longest paths are, by names and by bytes.
func extent(paths []string) (int, int) {
	height, width := 0, 0
	for _, path := range paths {
		height, width = max(height, 1+strings.Count(path, "/")), max(width, len(path))
	}
	return height, width
}

// modelChange is the tree with e at a path of names, or with nothing there, worked out from above without a store's Put.
func modelChange(s *store.Store, id api.Id, names []string, e *api.Entry) (api.Tree, api.Errno) {
	t, err := asTree(s, id)
	if err != api.OK {
		return t, err
	}
	var out []api.Entry
	var old, now api.Entry
	for _, x := range t.Entries {
		if x.Name == names[0] {
			old = x
		} else {
			out = append(out, x)
		}
	}
	switch {
	case e == nil && (old.Name == "" || len(names) > 1 && !old.Folder):
		return t, api.ErrNone
	case len(names) > 1 && old.Name != "" && !old.Folder:
		return t, api.ErrClash
	case len(names) == 1 && e != nil:
		now = *e
	case len(names) > 1 && old.Name == "":
		now = *e
		for k := len(names) - 1; k > 0; k-- {
			now.Name = names[k]
			now = folder("", idOf(api.Tree{Entries: []api.Entry{now}}))
		}
	case len(names) > 1:
		inner, err := modelChange(s, old.Id, names[1:], e)
		if err != api.OK {
			return t, err
		}
		if len(inner.Entries) > 0 {
			now = folder("", idOf(inner))
		}
	}
	if now.Id != 0 {
		now.Name = names[0]
		out = append(out, now)
	}
	slices.SortFunc(out, func(a, b api.Entry) int { return cmp.Compare(a.Name, b.Name) })
	return api.Tree{Entries: out}, api.OK
}

// wildPath is a path that leads somewhere, or nearly.
func wildPath(s *store.Store, r *rand.Rand, id api.Id) string {
	var names []string
	for len(names) < 5 && r.Intn(6) > 0 {
		t, err := asTree(s, id)
		if err != api.OK || len(t.Entries) == 0 || r.Intn(8) == 0 {
			names = append(names, "a")
			continue
		}
		e := t.Entries[r.Intn(len(t.Entries))]
		names = append(names, e.Name)
		id = e.Id
	}
	return strings.Join(names, "/")
}

// P9.2, P9.6, P9.7: what is told of trees that are not sound.
func TestWildTold(t *testing.T) {
	for seed := range int64(150) {
		s, ids := wild(t, rand.New(rand.NewSource(seed)))
		for _, id := range ids {
			files, err := modelFiles(s, id, nil)
			if got := walked(s, id); !slices.Equal(got, files) {
				t.Fatalf("seed %d: Walk(%x): %v, not %v", seed, id, got, files)
			}
			for _, most := range []int{0, len(files) - 1, len(files), len(files) + 1} {
				asked, askedErr := files, err
				if most < len(files) {
					askedErr = api.ErrLong
				}
				if most < 0 {
					askedErr = api.ErrArg
				}
				if askedErr != api.OK {
					asked = nil
				}
				if got, err := tree.Files(s, id, most); err != askedErr || !slices.Equal(got, asked) {
					t.Fatalf("seed %d: Files(%x, %d): %v %d, not %v %d", seed, id, most, got, err, asked, askedErr)
				}
			}
			wantMeasured(t, s, id)
		}
	}
}

// wantMeasured holds Size and Sound against the model.
func wantMeasured(t *testing.T, s *store.Store, id api.Id) {
	t.Helper()
	paths, err := modelPaths(s, id, false)
	if err != api.OK {
		wantNoSize(t, s, id, err)
	} else {
		height, width := extent(paths)
		wantSize(t, s, id, height, width, len(paths))
	}
	paths, err = modelPaths(s, id, true)
	if height, width := extent(paths); err == api.OK && (height > 16 || width > 200) {
		err = api.ErrLong
	}
	wantSound(t, s, id, err)
}

// P9.2: paths in trees that are not sound.
func TestWildFind(t *testing.T) {
	for seed := range int64(300) {
		r := rand.New(rand.NewSource(seed))
		s, ids := wild(t, r)
		for range 60 {
			id := ids[r.Intn(len(ids))]
			path := wildPath(s, r, id)
			if len(path) > 200 {
				continue
			}
			names, _ := name.Split(path)
			asked, askedErr := modelFind(s, api.Entry{Folder: true, Id: id}, names)
			if _, err := asTree(s, id); path == "" && err != api.OK {
				asked, askedErr = api.Entry{}, err
			}
			if e, err := tree.Find(s, id, path); e != asked || err != askedErr {
				t.Fatalf("seed %d: Find(%x, %q): %v %d, not %v %d", seed, id, path, e, err, asked, askedErr)
			}
			var bytes api.Blob
			if askedErr == api.OK && asked.Folder {
				askedErr = api.ErrClash
			} else if askedErr == api.OK {
				bytes, askedErr = s.Blob(asked.Id)
			}
			if b, err := tree.File(s, id, path); string(b) != string(bytes.Bytes) || err != askedErr {
				t.Fatalf("seed %d: File(%x, %q): %q %d, not %q %d", seed, id, path, b, err, bytes.Bytes, askedErr)
			}
		}
	}
}

// P9.3, P9.4, P9.9: changes of trees that are not sound.
func TestWildChanges(t *testing.T) {
	for seed := range int64(300) {
		r := rand.New(rand.NewSource(seed))
		s, ids := wild(t, r)
		for range 60 {
			id, e := ids[r.Intn(len(ids))], api.Entry{Name: "x", Folder: r.Intn(2) == 0, Id: ids[2+r.Intn(len(ids)-2)]}
			path := wildPath(s, r, id)
			if path == "" || len(path) > 200 {
				continue
			}
			before := s.Len()
			asked, askedErr := modelLay(s, id, path, e)
			out, err := tree.Lay(s, id, path, e)
			wantChange(t, "Lay at "+path, s, asked, askedErr, out, err)
			if more := s.Len() - before; more > name.Depth(path) {
				t.Errorf("Lay at %q put in %d trees", path, more)
			}
			names, _ := name.Split(path)
			gone, askedErr := modelChange(s, id, names, nil)
			out, err = tree.Remove(s, id, path)
			wantChange(t, "Remove of "+path, s, idOf(gone), askedErr, out, err)

			blob := file("", idOf(blobOf("3")))
			made, askedErr := modelChange(s, id, names, &blob)
			if there, err := tree.Find(s, id, path); err == api.OK && there.Folder {
				askedErr = api.ErrClash
			}
			out, err = tree.Put(s, id, path, []byte("3"))
			wantChange(t, "Put at "+path, s, idOf(made), askedErr, out, err)
		}
	}
}

// modelLay is P9.3's answer, but of the root.
func modelLay(s *store.Store, id api.Id, path string, e api.Entry) (api.Id, api.Errno) {
	names, _ := name.Split(path)
	if !e.Folder {
		out, err := modelChange(s, id, names, &e)
		return idOf(out), err
	}
	t, err := asTree(s, e.Id)
	switch {
	case err != api.OK:
		return 0, err
	case len(t.Entries) > 0:
		out, err := modelChange(s, id, names, &e)
		return idOf(out), err
	}
	if _, err := tree.Find(s, id, path); err == api.ErrNone {
		if _, err := asTree(s, id); err == api.OK && nothingRefused(s, id, names) {
			return id, api.OK
		}
	}
	out, err := modelChange(s, id, names, nil)
	return idOf(out), err
}

// nothingRefused says whether all trees along a path are read, so that ErrNone says that nothing stands there.
func nothingRefused(s *store.Store, id api.Id, names []string) bool {
	for k := range names {
		e, err := modelFind(s, api.Entry{Folder: true, Id: id}, names[:k])
		if err != api.OK || !e.Folder {
			return true
		}
		if _, err := asTree(s, e.Id); err != api.OK {
			return false
		}
	}
	return true
}

func wantChange(t *testing.T, what string, s *store.Store, asked api.Id, askedErr api.Errno, out api.Id, err api.Errno) {
	t.Helper()
	if askedErr != api.OK {
		wantErr(t, what, askedErr)(out, err)
		return
	}
	want(t, what, asked)(out, err)
	if !s.Has(out) {
		t.Errorf("%s: the tree is not there", what)
	}
}
