package embed

import (
	"espalier/api"
	"espalier/pathmap"
	"espalier/project"
	"espalier/split"
	"espalier/store"
)

// properOrder is the order of the history of a side that is proper.
func properOrder(s *store.Store, m *pathmap.Map, side api.Id) ([]api.Id, api.Errno) {
	if s == nil || m == nil {
		return nil, api.ErrNil
	}
	t, err := split.Of(s, pathmap.Trivial(), side)
	if err != api.OK {
		return nil, err
	}
	// Of its ancestors it need not be asked: what stands in for the side has what stands in for its parents as parents.
	if t.Head() != side {
		return nil, api.ErrImproper
	}
	var order []api.Id
	for _, standing := range t.All() {
		if err := allImages(s, m, standing.Commit); err != api.OK {
			return nil, err
		}
		order = append(order, standing.Commit)
	}
	return order, api.OK
}

// allImages is why a commit's tree is none that can be carved.
func allImages(s *store.Store, m *pathmap.Map, commit api.Id) api.Errno {
	c, err := s.Commit(commit)
	if err != api.OK {
		return err
	}
	inside, err := project.Inside(s, m, c.Tree)
	if err != api.OK {
		return err
	}
	if !inside {
		return api.ErrImproper
	}
	return api.OK
}
