package project

import (
	"espalier/api"
	"espalier/name"
	"espalier/store"
)

// span is how many bytes the paths of a tree's files have, by how many names they have: the least, and the most; 0, where there is no such file.
type span struct {
	least, most [api.MaxDepth + 1]int
}

// spans tells the spans of sound trees, each worked out once, in however many places it stands.
func spans(s *store.Store) func(api.Id) span {
	known := map[api.Id]span{}
	var of func(id api.Id) span
	of = func(id api.Id) span {
		if whole, there := known[id]; there {
			return whole
		}
		var whole span
		for _, e := range entries(s, id) {
			if !e.Folder {
				whole.add(1, len(e.Name), len(e.Name))
				continue
			}
			inner := of(e.Id)
			for names := range api.MaxDepth {
				if inner.most[names] > 0 {
					whole.add(names+1, len(e.Name)+1+inner.least[names], len(e.Name)+1+inner.most[names])
				}
			}
		}
		known[id] = whole
		return whole
	}
	return of
}

// add takes in files whose paths have that many names, and bytes from the least to the most.
func (p *span) add(names, least, most int) {
	if p.least[names] == 0 || least < p.least[names] {
		p.least[names] = least
	}
	p.most[names] = max(p.most[names], most)
}

// allFit says whether the paths of all files may be, if the tree stands at a path.
func (p span) allFit(path string) bool {
	for names, bytes := range p.most {
		if bytes > 0 && !fits(path, names, bytes) {
			return false
		}
	}
	return true
}

// anyFits says whether the path of a file may be, if the tree stands at a path.
func (p span) anyFits(path string) bool {
	for names, bytes := range p.least {
		if bytes > 0 && fits(path, names, bytes) {
			return true
		}
	}
	return false
}

// fits says whether so many names more, of so many bytes in all, may stand behind a path.
func fits(path string, names, bytes int) bool {
	if path != "" {
		bytes += len(path) + 1
	}
	return name.Depth(path)+names <= api.MaxDepth && bytes <= api.MaxPath
}
