package change

import (
	"cmp"
	"slices"

	"espalier/api"
	"espalier/name"
	"espalier/store"
)

// Apply: P10.3.
func Apply(s *store.Store, tree api.Id, l []api.Change) (api.Id, api.Errno) {
	if s == nil {
		return 0, api.ErrNil
	}
	if f := Check(l); f != (api.Fault{}) {
		return 0, f.Err
	}
	if err := sound(s, tree); err != api.OK {
		return 0, err
	}
	steps := stepsOf(l)
	if stale(s, tree, steps) {
		return 0, api.ErrStale
	}
	if err := blobs(s, steps); err != api.OK {
		return 0, err
	}
	// Ahead of the first tree that is put in, as a clash or a long tree that comes up last is told ahead of all that a store says.
	if err := fits(s, tree, steps); err != api.OK {
		return 0, err
	}
	return growth{store: s, lay: func(t api.Tree) (api.Id, api.Errno) { return s.Put(t) }}.whole(tree, steps)
}

// step is a change by the names of its path.
type step struct {
	names    []string
	was, now api.Id
}

func stepsOf(l []api.Change) []step {
	var steps []step
	for _, c := range l {
		names, _ := name.Split(c.Path)
		steps = append(steps, step{names: names, was: c.Was, now: c.Now})
	}
	return steps
}

// alike is how many steps at the beginning have that name there.
func alike(steps []step, part string, depth int) int {
	size := 0
	for size < len(steps) && steps[size].names[depth] == part {
		size++
	}
	return size
}

// stale says whether somewhere there does not stand the file that was there. A folder is read once for all steps in it, however many they are.
func stale(s *store.Store, id api.Id, steps []step) bool {
	var visit func(e api.Entry, steps []step, depth int) bool
	visit = func(e api.Entry, steps []step, depth int) bool {
		if len(steps) > 0 && len(steps[0].names) == depth {
			if blob(e) != steps[0].was {
				return true
			}
			steps = steps[1:]
		}
		entries := entriesOf(s, e)
		for len(steps) > 0 {
			part := steps[0].names[depth]
			size := alike(steps, part, depth)
			if visit(entryOf(entries, part), steps[:size], depth+1) {
				return true
			}
			steps = steps[size:]
		}
		return false
	}
	return visit(folder(id), steps, 0)
}

// entryOf is the entry that has that name, or none.
func entryOf(entries []api.Entry, part string) api.Entry {
	place, there := slices.BinarySearchFunc(entries, part, func(e api.Entry, part string) int {
		return cmp.Compare(e.Name, part)
	})
	if !there {
		return api.Entry{}
	}
	return entries[place]
}

// blobs answers why the first file that comes is none.
func blobs(s *store.Store, steps []step) api.Errno {
	for _, c := range steps {
		if c.now == 0 {
			continue
		}
		if _, err := s.Blob(c.now); err != api.OK {
			return err
		}
	}
	return api.OK
}

// fits answers why what comes can't be a tree.
func fits(s *store.Store, id api.Id, steps []step) api.Errno {
	long := false
	measure := growth{store: s, lay: func(t api.Tree) (api.Id, api.Errno) {
		long = long || len(t.Entries) > api.MaxEntries
		return 1, api.OK // any id is as good here
	}}
	if _, err := measure.whole(id, steps); err != api.OK {
		return err
	}
	// Only here, as a clash is told first, wherever it stands.
	if long {
		return api.ErrLong
	}
	return api.OK
}

// growth makes the trees of what comes, and shares all others: lay is handed each new one, from below, and answers its id.
type growth struct {
	store *store.Store
	lay   func(t api.Tree) (api.Id, api.Errno)
}

// whole is what comes of a tree.
func (g growth) whole(id api.Id, steps []step) (api.Id, api.Errno) {
	e, err := g.at(folder(id), steps, 0)
	return e.Id, err
}

// at is what comes of what stands at a path of so many names: of it, or in it, are all of the steps.
func (g growth) at(e api.Entry, steps []step, depth int) (api.Entry, api.Errno) {
	file, inner := e, api.Entry{}
	if e.Folder {
		file, inner = inner, file
	}
	if len(steps) > 0 && len(steps[0].names) == depth {
		file, steps = api.Entry{Id: steps[0].now}, steps[1:]
	}
	inner, err := g.within(inner, steps, depth)
	switch {
	case err != api.OK:
		return api.Entry{}, err
	case inner.Id == 0:
		return file, api.OK
	case file.Id == 0:
		return inner, api.OK
	}
	return api.Entry{}, api.ErrClash
}

// within is the folder that comes of one, or of none; none, if no file is left in it.
func (g growth) within(e api.Entry, steps []step, depth int) (api.Entry, api.Errno) {
	if len(steps) == 0 {
		return e, api.OK
	}
	var made api.Tree
	entries := entriesOf(g.store, e)
	for len(entries) > 0 || len(steps) > 0 {
		part := first(entries, steps, depth)
		var one api.Entry
		if len(entries) > 0 && entries[0].Name == part {
			one, entries = entries[0], entries[1:]
		}
		size := alike(steps, part, depth)
		one, err := g.at(one, steps[:size], depth+1)
		if err != api.OK {
			return api.Entry{}, err
		}
		steps = steps[size:]
		if one.Id != 0 {
			one.Name = part
			made.Entries = append(made.Entries, one)
		}
	}
	if len(made.Entries) == 0 && depth > 0 {
		return api.Entry{}, api.OK
	}
	id, err := g.lay(made)
	return folder(id), err
}

// first is the least name that an entry or a step has, as both rise; one of them there is.
func first(entries []api.Entry, steps []step, depth int) string {
	switch {
	case len(steps) == 0:
		return entries[0].Name
	case len(entries) == 0:
		return steps[0].names[depth]
	}
	return min(entries[0].Name, steps[0].names[depth])
}
