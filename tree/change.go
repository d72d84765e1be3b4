package tree

import (
	"espalier/api"
	"espalier/store"
)

// Lay: P9.3.
func Lay(s *store.Store, tree api.Id, path string, e api.Entry) (api.Id, api.Errno) {
	if err := refusal(s, path); err != api.OK {
		return 0, err
	}
	if path == "" && !e.Folder {
		return 0, api.ErrArg
	}
	bare, err := isBare(s, e)
	if err != api.OK {
		return 0, err
	}
	if path == "" {
		return e.Id, api.OK // it takes the place of the whole tree, which no name leads into
	}
	way, err := follow(s, tree, path)
	if err != api.OK {
		return 0, err
	}
	if bare {
		return without(s, tree, way)
	}
	if err := way.hinders(); err != api.OK {
		return 0, err
	}
	return way.lay(s, e)
}

// Put: P9.4.
func Put(s *store.Store, tree api.Id, path string, bytes []byte) (api.Id, api.Errno) {
	if err := refusal(s, path); err != api.OK {
		return 0, err
	}
	if path == "" {
		return 0, api.ErrArg
	}
	way, err := follow(s, tree, path)
	if err != api.OK {
		return 0, err
	}
	if way.last.Folder {
		return 0, api.ErrClash
	}
	if err := way.hinders(); err != api.OK {
		return 0, err
	}
	blob, err := s.Put(api.Blob{Bytes: bytes})
	if err != api.OK {
		return 0, err
	}
	return way.lay(s, api.Entry{Id: blob})
}

// Remove: P9.4.
func Remove(s *store.Store, tree api.Id, path string) (api.Id, api.Errno) {
	if err := refusal(s, path); err != api.OK {
		return 0, err
	}
	if path == "" {
		return removeAll(s, tree)
	}
	way, err := follow(s, tree, path)
	if err != api.OK {
		return 0, err
	}
	if way.nothing() {
		return 0, api.ErrNone
	}
	return way.take(s)
}

// isBare says whether e is a folder in which there would be nothing, which no tree has.
func isBare(s *store.Store, e api.Entry) (bool, api.Errno) {
	if !e.Folder {
		return false, api.OK
	}
	t, err := s.Tree(e.Id)
	return err == api.OK && len(t.Entries) == 0, err
}

// without is the tree without what stands where a path leads, whether anything does or not.
func without(s *store.Store, tree api.Id, way trail) (api.Id, api.Errno) {
	if way.nothing() {
		return tree, api.OK
	}
	return way.take(s)
}

func removeAll(s *store.Store, tree api.Id) (api.Id, api.Errno) {
	t, err := s.Tree(tree)
	if err != api.OK {
		return 0, err
	}
	if len(t.Entries) == 0 {
		return 0, api.ErrNone
	}
	return Empty(s)
}
