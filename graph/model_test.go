package graph_test

import (
	"math/big"
	"math/rand"
	"slices"
	"strconv"
	"testing"

	"espalier/api"
	"espalier/graph"
	"espalier/store"
	"espalier/tree"
)

// model goes through a history by the words of the chapter, by calls that call themselves.
type model struct {
	s     *store.Store
	order []api.Id
	being map[api.Id]bool
}

// parentsOf reads a commit by another call than the package does.
func parentsOf(s *store.Store, id api.Id) ([]api.Id, api.Errno) {
	o, err := s.Get(id)
	if err != api.OK {
		return nil, err
	}
	if c, ok := o.(api.Commit); ok {
		return c.Parents, api.OK
	}
	return nil, api.ErrKind
}

func (m *model) goThrough(id api.Id) api.Errno {
	if m.being[id] {
		return api.ErrRing
	}
	if slices.Contains(m.order, id) {
		return api.OK
	}
	parents, err := parentsOf(m.s, id)
	if err != api.OK {
		return err
	}
	m.being[id] = true
	for _, parent := range parents {
		if err := m.goThrough(parent); err != api.OK {
			return err
		}
	}
	delete(m.being, id)
	m.order = append(m.order, id)
	return api.OK
}

func modelOrder(s *store.Store, heads ...api.Id) ([]api.Id, api.Errno) {
	m := &model{s: s, being: map[api.Id]bool{}}
	for _, head := range heads {
		if err := m.goThrough(head); err != api.OK {
			return nil, err
		}
	}
	return m.order, api.OK
}

// ancestors is all ancestors of a commit of which no ring is an ancestor.
func ancestors(s *store.Store, id api.Id, found map[api.Id]bool) map[api.Id]bool {
	if !found[id] {
		found[id] = true
		parents, _ := parentsOf(s, id)
		for _, parent := range parents {
			ancestors(s, parent, found)
		}
	}
	return found
}

// modelLines counts ways without a bound, and tells them as P11.3 does.
func modelLines(s *store.Store, a, b api.Id) int {
	known := map[api.Id]*big.Int{a: big.NewInt(1)}
	var count func(id api.Id) *big.Int
	count = func(id api.Id) *big.Int {
		if known[id] == nil {
			sum := new(big.Int)
			parents, _ := parentsOf(s, id)
			for _, parent := range parents {
				sum.Add(sum, count(parent))
			}
			known[id] = sum
		}
		return known[id]
	}
	most := new(big.Int).Lsh(big.NewInt(1), 62)
	if n := count(b); n.Cmp(most) < 0 {
		return int(n.Int64())
	}
	return 1 << 62
}

func modelDepth(s *store.Store, id api.Id, known map[api.Id]int) int {
	if known[id] == 0 {
		deepest := 0
		parents, _ := parentsOf(s, id)
		for _, parent := range parents {
			deepest = max(deepest, modelDepth(s, parent, known))
		}
		known[id] = deepest + 1
	}
	return known[id]
}

// modelReach is P11.4's answer of an order.
func modelReach(s *store.Store, order []api.Id) ([]api.Id, api.Errno) {
	all := map[api.Id]bool{}
	var visit func(id api.Id)
	visit = func(id api.Id) {
		all[id] = true
		if t, err := s.Tree(id); err == api.OK {
			for _, e := range t.Entries {
				visit(e.Id)
			}
		}
	}
	for _, id := range order {
		c, _ := s.Commit(id)
		if err := tree.Sound(s, c.Tree); err != api.OK {
			return nil, err
		}
		all[id] = true
		visit(c.Tree)
	}
	var ids []api.Id
	for id := range all {
		ids = append(ids, id)
	}
	slices.Sort(ids)
	return ids, api.OK
}

// wild is a store of commits that came of each other anyhow; the more harm, the more of them lead to what is missing, to other kinds, and to rings. The ids are of all kinds, and most of commits.
func wild(t *testing.T, r *rand.Rand, harm int) (*store.Store, []api.Id) {
	t.Helper()
	s, _ := open(t)
	blob := keepBlob(t, s, "1")
	leaf := keepTree(t, s, file("a", blob))
	trees := list(keepTree(t, s), leaf, keepTree(t, s, folder("b", leaf), file("c", blob)))
	x, y, z := threeRing(t, s)
	wrong := list(missing, blob, leaf, 0, selfRing(t, s), midRing(t, s), twoRing(t, s), x, y, z)
	broken := list(missing, blob, keepTree(t, s, folder("d", trees[0])), keepTree(t, s, file("d", missing)), nested(t, s, leaf, "c", 16))
	var commits []api.Id
	for k := range 1 + r.Intn(30) {
		var parents []api.Id
		for range min(r.Intn(9), r.Intn(9)) {
			if id := wrong[r.Intn(len(wrong))]; r.Intn(200) < harm && id != 0 {
				parents = append(parents, id)
			} else if len(commits) > 0 {
				parents = append(parents, commits[len(commits)-1-min(r.Intn(len(commits)), r.Intn(len(commits)))])
			}
		}
		root := trees[r.Intn(len(trees))]
		if r.Intn(60) < harm {
			root = broken[r.Intn(len(broken))]
		}
		commits = append(commits, of(t, s, strconv.Itoa(k), root, parents...))
	}
	ids := commits
	if harm > 0 {
		ids = append(ids, wrong[r.Intn(len(wrong))])
	}
	return s, ids
}

// some is up to three ids, one perhaps twice.
func some(r *rand.Rand, ids []api.Id) []api.Id {
	var l []api.Id
	for range r.Intn(4) {
		l = append(l, ids[r.Intn(len(ids))])
	}
	return l
}

// P11.1, P11.2, P11.4: calls of lists of heads.
func TestWildLists(t *testing.T) {
	kinds := map[api.Errno]int{}
	for seed := range int64(400) {
		r := rand.New(rand.NewSource(seed))
		s, ids := wild(t, r, int(seed%4))
		for range 40 {
			have, heads := some(r, ids), some(r, ids)
			order, err := modelOrder(s, heads...)
			wantSame(t, "Order", order, err)(graph.Order(s, heads...))
			wantSame(t, "Roots", rootsOf(s, order), err)(graph.Roots(s, heads...))
			reach, reachErr := modelReach(s, order)
			if err != api.OK {
				reach, reachErr = nil, err
			}
			wantSame(t, "Reach", reach, reachErr)(graph.Reach(s, heads...))
			between, betweenErr := modelBetween(s, have, heads)
			wantSame(t, "Between", between, betweenErr)(graph.Between(s, have, heads))
			kinds[reachErr]++
			if t.Failed() {
				t.Fatalf("seed %d: have %x, heads %x", seed, have, heads)
			}
		}
	}
	for _, err := range []api.Errno{api.OK, api.ErrNone, api.ErrKind, api.ErrRing, api.ErrBroken, api.ErrLong} {
		if kinds[err] < 100 {
			t.Errorf("%d was asked %d times", err, kinds[err])
		}
	}
}

func wantSame(t *testing.T, what string, asked []api.Id, askedErr api.Errno) func(ids []api.Id, err api.Errno) {
	t.Helper()
	if askedErr != api.OK {
		return wantErr(t, what, askedErr)
	}
	return want(t, what, asked...)
}

func rootsOf(s *store.Store, order []api.Id) []api.Id {
	var roots []api.Id
	for _, id := range order {
		if parents, _ := parentsOf(s, id); len(parents) == 0 {
			roots = append(roots, id)
		}
	}
	return roots
}

// modelBetween is P11.2's answer, by the order of want alone.
func modelBetween(s *store.Store, have, heads []api.Id) ([]api.Id, api.Errno) {
	if _, err := modelOrder(s, slices.Concat(have, heads)...); err != api.OK {
		return nil, err
	}
	known := map[api.Id]bool{}
	for _, id := range have {
		ancestors(s, id, known)
	}
	order, _ := modelOrder(s, heads...)
	return slices.DeleteFunc(order, func(id api.Id) bool { return known[id] }), api.OK
}

// P11.2 to P11.4: calls of one commit, and of two.
func TestWildPairs(t *testing.T) {
	kinds := map[api.Errno]int{}
	for seed := range int64(300) {
		r := rand.New(rand.NewSource(seed))
		s, ids := wild(t, r, int(seed%4))
		for range 40 {
			a, b := ids[r.Intn(len(ids))], ids[r.Intn(len(ids))]
			_, err := modelOrder(s, a, b)
			kinds[err]++
			if err != api.OK {
				wantRefused(t, s, a, b, err)
			} else {
				wantAncestor(t, s, a, b, ancestors(s, b, map[api.Id]bool{})[a])
				wantLines(t, s, a, b, modelLines(s, a, b))
			}
			order, err := modelOrder(s, a)
			if err != api.OK {
				wantRefusedOne(t, s, a, err)
			} else {
				wantDepth(t, s, a, modelDepth(s, a, map[api.Id]int{}))
				_, err = modelReach(s, order)
				wantWhole(t, s, a, err)
			}
			if t.Failed() {
				t.Fatalf("seed %d: %x, %x", seed, a, b)
			}
		}
	}
	for _, err := range []api.Errno{api.OK, api.ErrNone, api.ErrKind, api.ErrRing} {
		if kinds[err] < 100 {
			t.Errorf("%d was asked %d times", err, kinds[err])
		}
	}
}

// P11.5: in Order each commit stands once, behind all its parents, with all its ancestors; Depth of a parent is below the commit's.
func TestOrderFollows(t *testing.T) {
	for seed := range int64(100) {
		r := rand.New(rand.NewSource(seed))
		s, ids := wild(t, r, 0)
		heads := some(r, ids)
		order, err := graph.Order(s, heads...)
		if err != api.OK {
			t.Fatal(err)
		}
		all := map[api.Id]bool{}
		for _, head := range heads {
			ancestors(s, head, all)
		}
		if len(order) != len(all) {
			t.Fatalf("seed %d: %d commits of %d", seed, len(order), len(all))
		}
		ahead := map[api.Id]bool{}
		for _, id := range order {
			depth, _ := graph.Depth(s, id)
			parents, _ := parentsOf(s, id)
			for _, parent := range parents {
				if d, err := graph.Depth(s, parent); !ahead[parent] || d >= depth || d < 1 || err != api.OK {
					t.Fatalf("seed %d: %x, of the depth %d, has the parent %x, of %d", seed, id, depth, parent, d)
				}
			}
			if !all[id] || ahead[id] {
				t.Fatalf("seed %d: %x stands there twice, or is no ancestor", seed, id)
			}
			ahead[id] = true
		}
	}
}

// P11.5: Ancestor is an order, and Lines is above 0 just there.
func TestAncestorFollows(t *testing.T) {
	for seed := range int64(40) {
		s, ids := wild(t, rand.New(rand.NewSource(seed)), 0)
		ids = ids[:min(len(ids), 12)]
		is := map[[2]api.Id]bool{}
		for _, a := range ids {
			for _, b := range ids {
				yes, err := graph.Ancestor(s, a, b)
				lines, linesErr := graph.Lines(s, a, b)
				if yes != (lines > 0) || err != api.OK || linesErr != api.OK {
					t.Fatalf("seed %d: %t %d, %d lines, %d", seed, yes, err, lines, linesErr)
				}
				is[[2]api.Id{a, b}] = yes
			}
		}
		for _, a := range ids {
			for _, b := range ids {
				there, back := is[[2]api.Id{a, b}], is[[2]api.Id{b, a}]
				if a == b && !there || a != b && there && back {
					t.Fatalf("seed %d: %x, %x: %t, %t", seed, a, b, there, back)
				}
				for _, c := range ids {
					if there && is[[2]api.Id{b, c}] && !is[[2]api.Id{a, c}] {
						t.Fatalf("seed %d: from %x by %x to %x", seed, a, b, c)
					}
				}
			}
		}
	}
}

// P11.5: Between of nothing is Order; with Order of have it has all commits of both.
func TestBetweenFollows(t *testing.T) {
	for seed := range int64(200) {
		r := rand.New(rand.NewSource(seed))
		s, ids := wild(t, r, 0)
		have, heads := some(r, ids), some(r, ids)
		order, _ := graph.Order(s, heads...)
		want(t, "Between of nothing", order...)(graph.Between(s, nil, heads))
		first, _ := graph.Order(s, have...)
		rest, err := graph.Between(s, have, heads)
		if err != api.OK {
			t.Fatal(err)
		}
		both, _ := graph.Order(s, slices.Concat(have, heads)...)
		joined := slices.Concat(first, rest)
		slices.Sort(joined)
		slices.Sort(both)
		want(t, "both", both...)(joined, api.OK)
		want(t, "Between of itself")(graph.Between(s, heads, heads))
	}
}
