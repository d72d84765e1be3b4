package split

import (
	"slices"

	"espalier/api"
	"espalier/parents"
	"espalier/store"
)

// How far a commit has been gone through.
const (
	unmet  = iota // what the map tells of an id that it does not have
	open          // its parents are being gone through
	passed        // it stands in the order, or is known
)

// source is a commit of the host, by its id.
type source struct {
	id api.Id
	api.Commit
}

// visit is a commit that is being gone through, and those of its parents that are left.
type visit struct {
	source
	left []api.Id
}

// fresh is the new commits, in the order of the history of the head.
func (o origin) fresh(s *store.Store) ([]source, api.Errno) {
	been := map[api.Id]int{}
	var order []source
	// At the bottom the head stands as the parent of what is no commit, and is never put in.
	pile := []visit{{left: []api.Id{o.head}}}
walk:
	for {
		top := &pile[len(pile)-1]
		for len(top.left) > 0 {
			next := top.left[0]
			top.left = top.left[1:]
			switch been[next] {
			case open:
				return nil, api.ErrRing
			case passed:
				continue
			}
			if _, known := o.ahead(next); known {
				been[next] = passed
				continue
			}
			c, err := s.Commit(next)
			if err != api.OK {
				return nil, err
			}
			been[next] = open
			pile = append(pile, visit{source: source{next, c}, left: c.Parents})
			continue walk
		}
		if len(pile) == 1 {
			return order, api.OK
		}
		been[top.id] = passed
		order = append(order, top.source)
		pile = pile[:len(pile)-1]
	}
}

// histories is commits whose histories have been read and are right. They stay so, as a store loses nothing; and a commit that is put in with such ones as its parents is one of them.
type histories map[api.Id]struct{}

func (h histories) add(ids ...api.Id) {
	for _, id := range ids {
		h[id] = struct{}{}
	}
}

// reduce is parents.Reduce, but that it does not go through the history of a single commit again: along a line of commits that would be each time all of it.
func (h histories) reduce(s *store.Store, standins []api.Id) ([]api.Id, api.Errno) {
	if len(standins) == 0 {
		return nil, api.OK
	}
	first := standins[0]
	_, read := h[first]
	if read && !slices.ContainsFunc(standins, func(id api.Id) bool { return id != first }) {
		return []api.Id{first}, api.OK
	}
	left, err := parents.Reduce(s, standins...)
	if err != api.OK {
		return nil, err
	}
	h.add(standins...)
	return left, api.OK
}
