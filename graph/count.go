package graph

import (
	"espalier/api"
	"espalier/store"
)

// mostLines is as far as ways are counted.
const mostLines = 1 << 62

// Depth: P11.3.
func Depth(s *store.Store, c api.Id) (int, api.Errno) {
	h, err := read(s, c)
	if err != api.OK {
		return 0, err
	}
	depths := map[api.Id]int{}
	for _, m := range h.order {
		above := 0
		for _, parent := range m.commit.Parents {
			above = max(above, depths[parent])
		}
		depths[m.id] = above + 1
	}
	return depths[c], api.OK
}

// Lines: P11.3.
func Lines(s *store.Store, a, b api.Id) (int, api.Errno) {
	h, err := read(s, a, b)
	if err != api.OK {
		return 0, err
	}
	ways := map[api.Id]int{a: 1}
	for _, m := range h.order {
		sum := ways[m.id]
		for _, parent := range m.commit.Parents {
			// Held against what is left, as the sum may be no int.
			sum += min(ways[parent], mostLines-sum)
		}
		ways[m.id] = sum
	}
	return ways[b], api.OK
}
