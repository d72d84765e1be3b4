package run

import "espalier/api"

// join is the pairs of all lists, by rising From; of several with one From that of the first list that has it.
func join(lists ...[]api.Pair) []api.Pair {
	switch len(lists) {
	case 0:
		return nil
	case 1:
		return lists[0]
	}
	// By halves, as a list that grew by one after the other would be gone through again for each of them.
	half := len(lists) / 2
	return joinTwo(join(lists[:half]...), join(lists[half:]...))
}

func joinTwo(first, second []api.Pair) []api.Pair {
	all := make([]api.Pair, 0, len(first)+len(second))
	for len(first) > 0 && len(second) > 0 {
		one, other := first[0], second[0]
		if other.From < one.From {
			all, second = append(all, other), second[1:]
			continue
		}
		if other.From == one.From {
			second = second[1:]
		}
		all, first = append(all, one), first[1:]
	}
	return append(append(all, first...), second...)
}
