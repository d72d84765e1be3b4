package embed

import (
	"maps"

	"espalier/api"
	"espalier/pathmap"
	"espalier/project"
	"espalier/store"
	"espalier/tree"
)

// joining is a join that is under way.
type joining struct {
	store  *store.Store
	rules  *pathmap.Map
	stands map[api.Id]api.Id   // for commits of the side: their places, and what was made for them
	above  map[api.Id]struct{} // commits of the host of which its head is an ancestor; where there is no head, none is
}

func joiningOf(s *store.Store, m *pathmap.Map, g ground) joining {
	return joining{store: s, rules: m, stands: maps.Clone(g.places), above: map[api.Id]struct{}{g.head: {}}}
}

func (j joining) isAbove(c api.Id) bool {
	_, is := j.above[c]
	return is
}

// replayAll replays those commits of a side that have no place, parents ahead of what came of them.
func (j joining) replayAll(order []api.Id) ([]api.Pair, api.Errno) {
	replay := j.replayer()
	var made []api.Pair
	for _, x := range order {
		if _, there := j.stands[x]; there {
			continue
		}
		id, err := replay(x)
		if err != api.OK {
			return nil, err
		}
		made = append(made, api.Pair{From: x, To: id})
	}
	return made, api.OK
}

// replayer answers what makes a commit of the host for one of the side, and has it stand for that.
func (j joining) replayer() func(x api.Id) (api.Id, api.Errno) {
	return func(x api.Id) (api.Id, api.Errno) {
		c, err := j.store.Commit(x)
		if err != api.OK {
			return 0, err
		}
		var parents []api.Id
		for _, parent := range c.Parents {
			parents = append(parents, j.stands[parent])
		}
		base, above := j.base(parents)
		root, err := j.back(base, c.Tree)
		if err != api.OK {
			return 0, err
		}
		id, err := j.store.Put(signed(c, root, parents...))
		if err != api.OK {
			return 0, err
		}
		j.stands[x] = id
		if above {
			j.above[id] = struct{}{}
		}
		return id, api.OK
	}
}

// base is the commit of the host whose outside a commit with those parents takes over (0: there are none), and whether the host's head is an ancestor of it.
func (j joining) base(parents []api.Id) (api.Id, bool) {
	for _, parent := range parents {
		if j.isAbove(parent) {
			return parent, true
		}
	}
	if len(parents) == 0 {
		return 0, false
	}
	return parents[0], false
}

// back is a tree of the side in that of a commit of the host; in the empty tree, if that is 0.
func (j joining) back(base, seen api.Id) (api.Id, api.Errno) {
	if base == 0 {
		empty, err := tree.Empty(j.store)
		if err != api.OK {
			return 0, err
		}
		return project.Back(j.store, j.rules, empty, seen)
	}
	c, err := j.store.Commit(base)
	if err != api.OK {
		return 0, err
	}
	return project.Back(j.store, j.rules, c.Tree, seen)
}

// merge joins a host and what stands for the side.
func (j joining) merge(host, side api.Id, by api.Commit) (api.Id, api.Errno) {
	c, err := j.store.Commit(side)
	if err != api.OK {
		return 0, err
	}
	root, err := j.back(host, c.Tree)
	if err != api.OK {
		return 0, err
	}
	return j.store.Put(signed(by, root, host, j.stands[side]))
}
