package parents

import (
	"slices"

	"espalier/api"
	"espalier/graph"
	"espalier/store"
)

// What is known of a commit: one bit each. A list has one bit for all of it, as it may be longer than a number has bits.
const (
	one   = 1 << iota // it is an ancestor of the first one, or of one of the list
	two               // it is an ancestor of the second one
	below             // it is a proper ancestor of what is sought
	told              // it stands in the list ahead

	both = one | two
)

// history is the order of some commits, and what is known of each of these.
type history struct {
	order []api.Id
	marks map[api.Id]uint
}

// ofList goes through the history of a list: below are the proper ancestors of any one of it.
func ofList(s *store.Store, l []api.Id) (history, api.Errno) {
	marks := map[api.Id]uint{}
	for _, id := range l {
		marks[id] |= one
	}
	return spread(s, marks, one, l...)
}

// ofPair goes through the history of two commits: below are the proper ancestors of any common one.
func ofPair(s *store.Store, a, b api.Id) (history, api.Errno) {
	marks := map[api.Id]uint{a: one}
	marks[b] |= two
	return spread(s, marks, both, a, b)
}

// spread lays what is known of the heads on their ancestors. A commit is sought if it has all of the bits sought.
func spread(s *store.Store, marks map[api.Id]uint, sought uint, heads ...api.Id) (history, api.Errno) {
	order, err := graph.Order(s, heads...)
	if err != api.OK {
		return history{}, err
	}
	// From the end, as by then all that came of a commit has laid its bits on it.
	for _, id := range slices.Backward(order) {
		c, err := s.Commit(id)
		if err != api.OK {
			return history{}, err
		}
		bits := marks[id]
		if bits&sought == sought {
			bits |= below
		}
		for _, parent := range c.Parents {
			marks[parent] |= bits
		}
	}
	return history{order: order, marks: marks}, api.OK
}

// count tells how many commits are reached by just these of the two.
func (h history) count(by uint) int {
	n := 0
	for _, id := range h.order {
		if h.marks[id]&both == by {
			n++
		}
	}
	return n
}
