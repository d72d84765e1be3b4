package graph

import (
	"maps"
	"slices"

	"espalier/api"
	"espalier/object"
	"espalier/store"
	"espalier/tree"
)

// Reach: P11.4.
func Reach(s *store.Store, heads ...api.Id) ([]api.Id, api.Errno) {
	if err := whole(s, heads...); err != api.OK {
		return nil, err
	}
	return closure(s, heads), api.OK
}

// Whole: P11.4.
func Whole(s *store.Store, c api.Id) api.Errno {
	return whole(s, c)
}

// whole answers what is wrong with the closures of heads: their commits first, then the trees of these, in their order.
func whole(s *store.Store, heads ...api.Id) api.Errno {
	h, err := read(s, heads...)
	if err != api.OK {
		return err
	}
	// Many commits may have one tree, and it is sound for all of them.
	sound := map[api.Id]struct{}{}
	for _, m := range h.order {
		root := m.commit.Tree
		if _, ok := sound[root]; ok {
			continue
		}
		if err := tree.Sound(s, root); err != api.OK {
			return err
		}
		sound[root] = struct{}{}
	}
	return api.OK
}

// closure is the ids of all to which heads lead, and theirs, rising; all of it is there.
func closure(s *store.Store, heads []api.Id) []api.Id {
	reached := map[api.Id]struct{}{}
	pile := slices.Clone(heads)
	for len(pile) > 0 {
		id := pile[len(pile)-1]
		pile = pile[:len(pile)-1]
		if _, ok := reached[id]; ok {
			continue
		}
		reached[id] = struct{}{}
		o, _ := s.Get(id)
		pile = append(pile, object.Links(o)...)
	}
	return slices.Sorted(maps.Keys(reached))
}
