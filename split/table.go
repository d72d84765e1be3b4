package split

import "espalier/api"

// origin is what a Table was made with, as far as it is asked for later on.
type origin struct {
	known Known
	head  api.Id
}

// ahead is what was known of a commit ahead of the Table.
func (o origin) ahead(c api.Id) (api.Id, bool) {
	if o.known == nil {
		return 0, false
	}
	standin, ok := o.known.Standin(c)
	if !ok {
		return 0, false // whatever it tells beside that
	}
	return standin, true
}

// Table is what stands in for the new commits of a history; of all others it asks what was known.
type Table struct {
	origin
	order     []api.Id
	standings map[api.Id]api.Standing
}

// add takes in a new commit, behind all of which it came.
func (t *Table) add(standing api.Standing) {
	t.order = append(t.order, standing.Commit)
	t.standings[standing.Commit] = standing
}

// ofParents is what stands in for the parents of a commit, without those for which nothing does.
func (t *Table) ofParents(c source) []api.Id {
	var standins []api.Id
	for _, parent := range c.Parents {
		standin, _ := t.Standin(parent)
		standins = append(standins, standin)
	}
	return present(standins)
}

// Standin: P16.3.
func (t *Table) Standin(c api.Id) (api.Id, bool) {
	if t == nil {
		return 0, false
	}
	if standing, ok := t.standings[c]; ok {
		return standing.Standin, true
	}
	return t.ahead(c)
}

// Head: P16.3.
func (t *Table) Head() api.Id {
	if t == nil {
		return 0
	}
	standin, _ := t.Standin(t.head)
	return standin
}

// All: P16.3.
func (t *Table) All() []api.Standing {
	if t == nil {
		return nil
	}
	var all []api.Standing
	for _, c := range t.order {
		all = append(all, t.standings[c])
	}
	return all
}

// Pairs: P16.3.
func (t *Table) Pairs() []api.Pair {
	var pairs []api.Pair
	for _, standing := range t.All() {
		pairs = append(pairs, api.Pair{From: standing.Commit, To: standing.Standin})
	}
	return pairs
}

// Source: P16.3.
func (t *Table) Source(standin api.Id) (api.Id, bool) {
	if t == nil {
		return 0, false
	}
	for _, c := range t.order {
		if standing := t.standings[c]; standing.Kept && standing.Standin == standin {
			return c, true
		}
	}
	return 0, false
}

// Projected: P16.3.
func (t *Table) Projected() int {
	if t == nil {
		return 0
	}
	return len(t.order)
}
