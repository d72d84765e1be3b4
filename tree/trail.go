package tree

import (
	"cmp"
	"slices"

	"espalier/api"
	"espalier/name"
	"espalier/store"
)

// trail is where a path other than the root leads.
type trail struct {
	names []string
	trees []api.Tree // the place of each is that of the name that is looked for in it; they end ahead of the names where no folder stands
	last  api.Entry  // what the last one of the trees has by that name; the zero one, which is none, if it has nothing
}

// follow reads the trees along a path, as far as they are there.
func follow(s *store.Store, tree api.Id, path string) (trail, api.Errno) {
	way := trail{last: api.Entry{Folder: true, Id: tree}}
	for _, part := range name.Names(path) {
		way.names = append(way.names, part)
		if !way.last.Folder {
			continue
		}
		t, err := s.Tree(way.last.Id)
		if err != api.OK {
			return trail{}, err
		}
		way.trees = append(way.trees, t)
		way.last = entryOf(t.Entries, part)
	}
	return way, api.OK
}

// nothing says whether nothing stands at the path.
func (way trail) nothing() bool {
	return way.short() || way.last == (api.Entry{})
}

// short says whether there is not even a folder in which the path's last name could be looked for.
func (way trail) short() bool {
	return len(way.trees) < len(way.names)
}

// hinders is why nothing can be laid at the path.
func (way trail) hinders() api.Errno {
	missing := way.last == (api.Entry{})
	switch {
	case way.short() && !missing:
		return api.ErrClash // the last that is there is a file, on the way
	case missing && len(way.trees[len(way.trees)-1].Entries) >= api.MaxEntries:
		return api.ErrLong // the new name comes into the last tree that is there
	}
	return api.OK
}

// lay is the tree in which e stands at the path.
func (way trail) lay(s *store.Store, e api.Entry) (api.Id, api.Errno) {
	// With a name it can't be taken for none, whatever else it has.
	e.Name = way.names[len(way.names)-1]
	return way.change(s, e)
}

// take is the tree without what stands at the path.
func (way trail) take(s *store.Store) (api.Id, api.Errno) {
	return way.change(s, api.Entry{})
}

// change puts in the trees along the path, from below, with e at its end (none: with nothing there), and answers the root's id.
func (way trail) change(s *store.Store, e api.Entry) (api.Id, api.Errno) {
	var made func(depth int) (api.Entry, api.Errno)
	made = func(depth int) (api.Entry, api.Errno) {
		if depth == len(way.names) {
			return e, api.OK
		}
		below, err := made(depth + 1)
		if err != api.OK {
			return api.Entry{}, err
		}
		entries := with(way.entries(depth), way.names[depth], below)
		if len(entries) == 0 && depth > 0 {
			return api.Entry{}, api.OK // a folder without entries goes, too
		}
		id, err := s.Put(api.Tree{Entries: entries})
		return api.Entry{Folder: true, Id: id}, err
	}
	top, err := made(0)
	return top.Id, err
}

// entries is what the folder of the path's first names has: nothing, if it is yet to be made.
func (way trail) entries(depth int) []api.Entry {
	if depth >= len(way.trees) {
		return nil
	}
	return way.trees[depth].Entries
}

// with is entries of which that name has e (none: of which none has it).
func with(entries []api.Entry, part string, e api.Entry) []api.Entry {
	place, there := search(entries, part)
	ahead, behind := entries[:place], entries[place:]
	if there {
		behind = behind[1:]
	}
	var now []api.Entry
	if e != (api.Entry{}) {
		now = append(now, api.Entry{Name: part, Folder: e.Folder, Id: e.Id})
	}
	return slices.Concat(ahead, now, behind)
}

// entryOf is the entry that has that name, or none.
func entryOf(entries []api.Entry, part string) api.Entry {
	place, there := search(entries, part)
	if !there {
		return api.Entry{}
	}
	return entries[place]
}

// search is the place at which that name stands, or would stand, as names rise.
func search(entries []api.Entry, part string) (int, bool) {
	return slices.BinarySearchFunc(entries, part, func(e api.Entry, part string) int {
		return cmp.Compare(e.Name, part)
	})
}
