package tree

import (
	"iter"

	"espalier/api"
	"espalier/name"
	"espalier/store"
)

// Files: P9.6.
func Files(s *store.Store, tree api.Id, most int) ([]api.File, api.Errno) {
	if s == nil {
		return nil, api.ErrNil
	}
	if most < 0 {
		return nil, api.ErrArg
	}
	var list []api.File
	more := false
	err := goThrough(s, tree, func(path string, blob api.Id) bool {
		if len(list) == most {
			more = true
			return false
		}
		list = append(list, api.File{Path: path, Blob: blob})
		return true
	})
	if more {
		err = api.ErrLong
	}
	if err != api.OK {
		return nil, err
	}
	return list, api.OK
}

// Walk: P9.6.
func Walk(s *store.Store, tree api.Id) iter.Seq2[string, api.Id] {
	return func(yield func(string, api.Id) bool) {
		goThrough(s, tree, yield)
	}
}

// site is a folder's tree, and how much of a path leads to it: whether the paths in it are too long hangs on nothing else.
type site struct {
	tree         api.Id
	names, bytes int
}

// goThrough tells the files of a tree, in their order, till tell answers false; it answers why it can't go on.
func goThrough(s *store.Store, tree api.Id, tell func(path string, blob api.Id) bool) api.Errno {
	read := readNow(s)
	told := 0
	// Folders within folders may be more than can ever be gone through, even where no file ends that: so those without a file are gone through once.
	bare := map[site]struct{}{}
	var visit func(id api.Id, path string) (bool, api.Errno)
	visit = func(id api.Id, path string) (bool, api.Errno) {
		here := site{tree: id, names: name.Depth(path), bytes: len(path)}
		if _, ok := bare[here]; ok {
			return true, api.OK
		}
		t, err := read(id)
		if err != api.OK {
			return false, err
		}
		before := told
		for _, e := range t.Entries {
			longer, err := name.Join(path, e.Name)
			if err != api.OK {
				return false, err
			}
			var on bool
			if e.Folder {
				on, err = visit(e.Id, longer)
			} else {
				told++
				on = tell(longer, e.Id)
			}
			if !on {
				return false, err
			}
		}
		if told == before {
			bare[here] = struct{}{}
		}
		return true, api.OK
	}
	_, err := visit(tree, "")
	return err
}

// readNow reads trees as the store has them now: whoever is told of a file may put in what was missing, which is not to be seen before the next time.
func readNow(s *store.Store) func(id api.Id) (api.Tree, api.Errno) {
	begin := s.Len()
	late := map[api.Id]struct{}{}
	return func(id api.Id) (api.Tree, api.Errno) {
		for next := range s.Since(begin + len(late)) {
			late[next] = struct{}{}
		}
		if _, ok := late[id]; ok {
			return api.Tree{}, api.ErrNone
		}
		return s.Tree(id)
	}
}
