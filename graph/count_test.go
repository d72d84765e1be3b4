package graph_test

import (
	"slices"
	"testing"

	"espalier/api"
	"espalier/disk"
	"espalier/graph"
	"espalier/store"
)

// P11.3: the longest way to a commit without parents.
func TestDepth(t *testing.T) {
	s, _ := open(t)
	a, b, c, d, e := five(t, s)
	for id, asked := range map[api.Id]int{a: 1, b: 2, c: 2, d: 3, e: 4} {
		wantDepth(t, s, id, asked)
	}
	z := bare(t, s, "z")
	wantDepth(t, s, bare(t, s, "short first", z, e), 5)
	wantDepth(t, s, bare(t, s, "long first", e, z), 5)
	wantDepth(t, s, bare(t, s, "between", z, e, z, b), 5)
	wantDepth(t, s, bare(t, s, "twice", z, z, z), 2)
}

// P11.3: ways by each parent, as often as it stands there.
func TestLines(t *testing.T) {
	s, _ := open(t)
	a, b, c, d, e := five(t, s)
	for _, id := range list(a, b, c, d, e) {
		wantLines(t, s, id, id, 1)
	}
	for _, q := range []struct {
		a, b  api.Id
		asked int
	}{{a, b, 1}, {a, d, 2}, {b, d, 1}, {b, e, 1}, {d, e, 1}, {e, a, 0}, {d, b, 0}, {c, b, 0}} {
		wantLines(t, s, q.a, q.b, q.asked)
	}
	z := bare(t, s, "z")
	wantLines(t, s, z, e, 0)
	wantLines(t, s, e, z, 0)
	thrice := bare(t, s, "thrice", a, a, a)
	wantLines(t, s, a, thrice, 3)
	more := bare(t, s, "more", thrice, z, thrice, a)
	wantLines(t, s, a, more, 7)
	wantLines(t, s, thrice, more, 2)
	wantLines(t, s, z, more, 1)
	// What a itself came of in many ways is none of the ways to it.
	wantLines(t, s, more, bare(t, s, "last", more, a), 1)
}

// P11.3: ways are counted up to 2^62.
func TestVeryManyLines(t *testing.T) {
	s, _ := open(t)
	a := bare(t, s, "a")
	even, odd := a, a
	for range 61 {
		even, odd = bare(t, s, "even", even, even), bare(t, s, "odd", odd, odd, a)
	}
	wantLines(t, s, a, even, 1<<61)
	wantLines(t, s, a, odd, 1<<62-1)
	most := bare(t, s, "most", even, even)
	for _, parents := range [][]api.Id{
		{even, even}, {odd, a}, {a, odd}, {odd, odd}, {even, even, a}, {odd, a, a}, {most, a}, {a, most}, {most, most},
		{most, most, most, most, most, most, most, most}, {odd, odd, odd, odd, odd, odd, odd, odd},
	} {
		many := bare(t, s, "many", parents...)
		wantLines(t, s, a, many, 1<<62)
		wantLines(t, s, a, bare(t, s, "and on", many), 1<<62)
		wantLines(t, s, a, bare(t, s, "and on", many, many, a), 1<<62)
		wantAncestor(t, s, a, many, true)
		wantAncestor(t, s, many, a, false)
	}
	wantLines(t, s, even, bare(t, s, "", even, even, even), 3)
	wantDepth(t, s, even, 62)
}

// fullStore is a store of as many objects as may be: the empty tree, and commits each of which came of the one ahead; their ids, the first one's first.
func fullStore(t *testing.T) (*store.Store, []api.Id) {
	t.Helper()
	s := openDisk(t, disk.New())
	none := keepTree(t, s)
	var ids, parents []api.Id
	for range api.MaxObjects - 1 {
		id := keep(t, s, api.Commit{Tree: none, Parents: parents})
		ids, parents = append(ids, id), list(id)
	}
	return s, ids
}

// No history is too deep.
func TestDeep(t *testing.T) {
	s, line := fullStore(t)
	first, last := line[0], line[len(line)-1]
	want(t, "Order", line...)(graph.Order(s, last))
	want(t, "Order", line...)(graph.Order(s, line...))
	want(t, "Roots", first)(graph.Roots(s, last))
	want(t, "Between", line[len(line)/2:]...)(graph.Between(s, line[:len(line)/2], list(last)))
	wantDepth(t, s, last, len(line))
	wantLines(t, s, first, last, 1)
	wantAncestor(t, s, first, last, true)
	wantAncestor(t, s, last, first, false)
	wantWhole(t, s, last, api.OK)
	all := slices.Sorted(s.Since(0))
	want(t, "Reach", all...)(graph.Reach(s, last))
}
