package tree

import (
	"espalier/api"
	"espalier/store"
)

// mostFiles is as far as files are counted.
const mostFiles = 1 << 62

// measure is how great a tree is.
type measure struct {
	height, width, files int
	open                 bool // it is being gone through, and the others are not known yet
}

// Size: P9.7.
func Size(s *store.Store, tree api.Id) (height, width, files int, e api.Errno) {
	m, err := survey(s, tree, func(api.Entry, measure) api.Errno { return api.OK })
	return m.height, m.width, m.files, err
}

// Sound: P9.7.
func Sound(s *store.Store, tree api.Id) api.Errno {
	m, err := survey(s, tree, func(e api.Entry, m measure) api.Errno {
		if !e.Folder {
			_, err := s.Blob(e.Id)
			return err
		}
		// In a tree whose folders all held there are files, if there are entries.
		if m.files == 0 {
			return api.ErrBroken
		}
		return api.OK
	})
	switch {
	case err != api.OK:
		return err
	case m.height > api.MaxDepth, m.width > api.MaxPath:
		return api.ErrLong
	}
	return api.OK
}

// survey goes through the trees of a tree, each once; hold is asked of each entry, when the tree to which it leads has been gone through.
func survey(s *store.Store, tree api.Id, hold func(e api.Entry, m measure) api.Errno) (measure, api.Errno) {
	known := map[api.Id]measure{}
	var visit func(id api.Id) (measure, api.Errno)
	visit = func(id api.Id) (measure, api.Errno) {
		if m, ok := known[id]; ok {
			if m.open {
				return measure{}, api.ErrLong // it is in itself
			}
			return m, api.OK
		}
		t, err := s.Tree(id)
		if err != api.OK {
			return measure{}, err
		}
		known[id] = measure{open: true}
		var whole measure
		for _, e := range t.Entries {
			part := measure{files: 1}
			if e.Folder {
				part, err = visit(e.Id)
			}
			if err == api.OK {
				err = hold(e, part)
			}
			if err != api.OK {
				return measure{}, err
			}
			whole = whole.with(e, part)
		}
		known[id] = whole
		return whole, api.OK
	}
	return visit(tree)
}

// with is the measure of a tree that has this entry, too.
func (m measure) with(e api.Entry, part measure) measure {
	if part.files == 0 {
		return m // height and width are those of files
	}
	width := len(e.Name)
	if e.Folder {
		width += len("/") + part.width
	}
	m.height = max(m.height, 1+part.height)
	m.width = max(m.width, width)
	// Held against what is left, as the sum may be no int.
	m.files += min(part.files, mostFiles-m.files)
	return m
}
