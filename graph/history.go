package graph

import (
	"espalier/api"
	"espalier/store"
)

// How far a commit has been gone through.
const (
	unmet  = iota // what the map tells of an id that it does not have
	open          // its parents are being gone through
	placed        // it stands in the order
)

// member is a commit of a history, by its id.
type member struct {
	id     api.Id
	commit api.Commit
}

// visit is a commit that is being gone through, and those of its parents that are left.
type visit struct {
	member
	left []api.Id
}

// history is the order of some heads, as far as they have been gone through.
type history struct {
	store *store.Store
	been  map[api.Id]int
	order []member
}

// read goes through the histories of heads.
func read(s *store.Store, heads ...api.Id) (*history, api.Errno) {
	// Here, as of no heads nothing is read that would tell it.
	if s == nil {
		return nil, api.ErrNil
	}
	h := &history{store: s, been: map[api.Id]int{}}
	if err := h.follow(heads); err != api.OK {
		return nil, err
	}
	return h, api.OK
}

// follow goes through heads, from the first on, and puts all commits that are new behind the others.
func (h *history) follow(heads []api.Id) api.Errno {
	// At the bottom the heads stand as parents of what is no commit, and is never put in.
	pile := []visit{{left: heads}}
walk:
	for {
		top := &pile[len(pile)-1]
		for len(top.left) > 0 {
			next := top.left[0]
			top.left = top.left[1:]
			switch h.been[next] {
			case open:
				return api.ErrRing
			case placed:
				continue
			}
			c, err := h.store.Commit(next)
			if err != api.OK {
				return err
			}
			h.been[next] = open
			pile = append(pile, visit{member: member{id: next, commit: c}, left: c.Parents})
			continue walk
		}
		if len(pile) == 1 {
			return api.OK
		}
		h.been[top.id] = placed
		h.order = append(h.order, top.member)
		pile = pile[:len(pile)-1]
	}
}

func ids(members []member) []api.Id {
	var list []api.Id
	for _, m := range members {
		list = append(list, m.id)
	}
	return list
}
