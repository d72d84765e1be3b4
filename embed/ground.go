package embed

import (
	"slices"

	"espalier/api"
	"espalier/graph"
	"espalier/pathmap"
	"espalier/split"
	"espalier/store"
)

// ground is a host into which something is to be joined: its head and its carved head (0: none), and its places, by what stands in for them.
type ground struct {
	head, carved api.Id
	places       map[api.Id]api.Id
}

// groundOf looks at the history of a host.
func groundOf(s *store.Store, m *pathmap.Map, k split.Known, host api.Id) (ground, api.Errno) {
	g := ground{head: host, places: map[api.Id]api.Id{}}
	if host == 0 {
		return g, api.OK
	}
	t, err := split.From(s, m, k, host)
	if err != api.OK {
		return ground{}, err
	}
	g.carved = t.Head()
	order, err := graph.Order(s, host)
	if err != api.OK {
		return ground{}, err
	}
	whole, err := ofAll(s, m, t, order)
	if err != api.OK {
		return ground{}, err
	}
	g.find(whole, order)
	return g, api.OK
}

// ofAll is a Table that tells of each commit of a history. What is known may tell of a commit, and not of those that it came of: these are new ones then.
func ofAll(s *store.Store, m *pathmap.Map, t *split.Table, order []api.Id) (*split.Table, api.Errno) {
	// From the end, so that each Table takes in as many as it can.
	for _, c := range slices.Backward(order) {
		if _, told := t.Standin(c); told {
			continue
		}
		next, err := split.From(s, m, t, c)
		if err != api.OK {
			return nil, err
		}
		t = next
	}
	return t, api.OK
}

// find finds the places in the order of the host's history. The first commit for which something stands in is kept, and that is its own one: of what is pruned a parent, which stands ahead, has the same. So what is known need not tell which are kept.
func (g ground) find(k split.Known, order []api.Id) {
	for _, c := range order {
		own, _ := k.Standin(c)
		if _, there := g.places[own]; own != 0 && !there {
			g.places[own] = c
		}
	}
	if g.carved != 0 {
		g.places[g.carved] = g.head
	}
}
