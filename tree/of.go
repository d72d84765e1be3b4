package tree

import (
	"slices"

	"espalier/api"
	"espalier/name"
	"espalier/store"
)

// leaf is a file by the names of its path.
type leaf struct {
	names []string
	blob  api.Id
}

// Of: P9.5.
func Of(s *store.Store, files []api.File) (api.Id, api.Errno) {
	if s == nil {
		return 0, api.ErrNil
	}
	leaves, err := sorted(files)
	if err != api.OK {
		return 0, err
	}
	if err := fit(leaves); err != api.OK {
		return 0, err
	}
	// Ahead of the first tree that is put in, as a long one that comes up last is told ahead of all that a store says.
	if _, err := grow(leaves, measured); err != api.OK {
		return 0, err
	}
	for _, file := range files {
		if _, err := s.Blob(file.Blob); err != api.OK {
			return 0, err
		}
	}
	return grow(leaves, func(t api.Tree) (api.Id, api.Errno) { return s.Put(t) })
}

// sorted is files in the order of trees, if they all have paths at which a file may stand.
func sorted(files []api.File) ([]leaf, api.Errno) {
	var leaves []leaf
	for _, file := range files {
		names, err := name.Split(file.Path)
		if err != api.OK || len(names) == 0 {
			return nil, api.ErrArg
		}
		leaves = append(leaves, leaf{names: names, blob: file.Blob})
	}
	slices.SortFunc(leaves, func(a, b leaf) int { return slices.Compare(a.names, b.names) })
	return leaves, api.OK
}

// fit answers why sorted files can't stand in one tree. What lies in a path stands behind it, with nothing else between, so that neighbours tell.
func fit(leaves []leaf) api.Errno {
	err := api.OK
	for k := 1; k < len(leaves); k++ {
		one, next := leaves[k-1].names, leaves[k].names
		switch {
		case slices.Equal(one, next):
			return api.ErrThere
		case len(one) < len(next) && slices.Equal(one, next[:len(one)]):
			err = api.ErrClash // and on, as a path that stands twice further behind is told first
		}
	}
	return err
}

// measured takes a tree just for how many entries it has; any id is as good for that.
func measured(t api.Tree) (api.Id, api.Errno) {
	if len(t.Entries) > api.MaxEntries {
		return 0, api.ErrLong
	}
	return 1, api.OK
}

// grow makes the trees of sorted files, from below: lay is handed each of them, and answers its id.
func grow(leaves []leaf, lay func(t api.Tree) (api.Id, api.Errno)) (api.Id, api.Errno) {
	var made func(group []leaf, depth int) (api.Id, api.Errno)
	made = func(group []leaf, depth int) (api.Id, api.Errno) {
		var t api.Tree
		for len(group) > 0 {
			first := group[0]
			e := api.Entry{Name: first.names[depth], Id: first.blob}
			size := alike(group, depth)
			if len(first.names) > depth+1 {
				id, err := made(group[:size], depth+1)
				if err != api.OK {
					return 0, err
				}
				e.Folder, e.Id = true, id
			}
			t.Entries = append(t.Entries, e)
			group = group[size:]
		}
		return lay(t)
	}
	return made(leaves, 0)
}

// alike is how many files at the beginning have one name at that depth.
func alike(group []leaf, depth int) int {
	size := 1
	for size < len(group) && group[size].names[depth] == group[0].names[depth] {
		size++
	}
	return size
}
