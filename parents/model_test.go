package parents_test

import (
	"math/rand"
	"slices"
	"strconv"
	"testing"

	"espalier/api"
	"espalier/parents"
	"espalier/store"
)

// parentsOf reads a commit by another call than the package does.
func parentsOf(s *store.Store, id api.Id) ([]api.Id, api.Errno) {
	o, err := s.Get(id)
	if err != api.OK {
		return nil, err
	}
	if c, ok := o.(api.Commit); ok {
		return c.Parents, api.OK
	}
	return nil, api.ErrKind
}

// modelOrder is chapter 11's order, by a call that calls itself.
func modelOrder(s *store.Store, heads ...api.Id) ([]api.Id, api.Errno) {
	var order []api.Id
	being := map[api.Id]bool{}
	var through func(ids []api.Id) api.Errno
	through = func(ids []api.Id) api.Errno {
		for _, id := range ids {
			if being[id] {
				return api.ErrRing
			}
			if slices.Contains(order, id) {
				continue
			}
			from, err := parentsOf(s, id)
			if err != api.OK {
				return err
			}
			being[id] = true
			if err := through(from); err != api.OK {
				return err
			}
			delete(being, id)
			order = append(order, id)
		}
		return api.OK
	}
	if err := through(heads); err != api.OK {
		return nil, err
	}
	return order, api.OK
}

// isAncestor tells it of commits whose histories have no ring.
func isAncestor(s *store.Store, a, b api.Id) bool {
	order, _ := modelOrder(s, b)
	return slices.Contains(order, a)
}

// modelReduce is the list reduced, by the chapter's words.
func modelReduce(s *store.Store, l []api.Id) []api.Id {
	var left []api.Id
	for i, id := range l {
		goes := slices.Contains(l[:i], id)
		for _, other := range l {
			goes = goes || other != id && isAncestor(s, id, other)
		}
		if !goes {
			left = append(left, id)
		}
	}
	return left
}

// modelCommon is the common ancestors of two commits, in the order of their history.
func modelCommon(s *store.Store, a, b api.Id) []api.Id {
	order, _ := modelOrder(s, a, b)
	return slices.DeleteFunc(order, func(id api.Id) bool { return !isAncestor(s, id, a) || !isAncestor(s, id, b) })
}

func modelBases(s *store.Store, a, b api.Id) []api.Id {
	common := modelCommon(s, a, b)
	var bases []api.Id
	for _, id := range common {
		if !slices.ContainsFunc(common, func(other api.Id) bool { return other != id && isAncestor(s, id, other) }) {
			bases = append(bases, id)
		}
	}
	return bases
}

func modelRelation(s *store.Store, a, b api.Id) int {
	switch {
	case a == b:
		return 1
	case isAncestor(s, b, a):
		return 2
	case isAncestor(s, a, b):
		return 3
	case len(modelCommon(s, a, b)) > 0:
		return 4
	}
	return 5
}

// modelAhead is how many ancestors of a are none of b.
func modelAhead(s *store.Store, a, b api.Id) int {
	order, _ := modelOrder(s, a)
	return len(slices.DeleteFunc(order, func(id api.Id) bool { return isAncestor(s, id, b) }))
}

// wild is a store of commits that came of each other anyhow; the more harm, the more of them lead to what is no commit, and to rings. The ids are most of commits.
func wild(t *testing.T, r *rand.Rand, harm int) (*store.Store, []api.Id) {
	t.Helper()
	s, _ := open(t)
	wrong := list(missing, keepBlob(t, s, "1"), selfRing(t, s), twoRing(t, s))
	var commits []api.Id
	most := 1 + r.Intn(4)
	for k := range 1 + r.Intn(24) {
		var from []api.Id
		for range r.Intn(most + 1) {
			if r.Intn(60) < harm {
				from = append(from, wrong[r.Intn(len(wrong))])
			} else if len(commits) > 0 {
				from = append(from, commits[r.Intn(len(commits))])
			}
		}
		commits = append(commits, bare(t, s, strconv.Itoa(k), from...))
	}
	if harm > 0 {
		commits = append(commits, wrong[r.Intn(len(wrong))])
	}
	return s, commits
}

// some is up to five ids, some perhaps more than once.
func some(r *rand.Rand, ids []api.Id) []api.Id {
	var l []api.Id
	for range r.Intn(6) {
		l = append(l, ids[r.Intn(len(ids))])
	}
	return l
}

// enough wants each of these to have been met often.
func enough[K comparable](t *testing.T, met map[K]int, all ...K) {
	t.Helper()
	for _, k := range all {
		if met[k] < 100 {
			t.Errorf("%v was met %d times", k, met[k])
		}
	}
}

// P12.1: lists of commits of wild histories.
func TestWildLists(t *testing.T) {
	errs, is := map[api.Errno]int{}, map[bool]int{}
	for seed := range int64(400) {
		r := rand.New(rand.NewSource(seed))
		s, ids := wild(t, r, int(seed%4))
		for range 20 {
			l := some(r, ids)
			_, err := modelOrder(s, l...)
			errs[err]++
			if err != api.OK {
				wantRefusedList(t, s, l, err)
			} else {
				left := modelReduce(s, l)
				wantReduce(t, s, l, left...)
				is[len(l) > 1 && slices.Equal(l, left)]++
			}
			if t.Failed() {
				t.Fatalf("seed %d: %x", seed, l)
			}
		}
	}
	enough(t, errs, api.OK, api.ErrNone, api.ErrKind, api.ErrRing)
	enough(t, is, true, false)
}

// P12.2, P12.3: pairs of commits of wild histories.
func TestWildPairs(t *testing.T) {
	errs, kinds, bases := map[api.Errno]int{}, map[int]int{}, map[int]int{}
	for seed := range int64(1200) {
		r := rand.New(rand.NewSource(seed))
		s, ids := wild(t, r, int(seed%4))
		for range 20 {
			a, b := ids[r.Intn(len(ids))], ids[r.Intn(len(ids))]
			_, err := modelOrder(s, a, b)
			errs[err]++
			if err != api.OK {
				wantRefused(t, s, a, b, err)
			} else {
				asked, kind := modelBases(s, a, b), modelRelation(s, a, b)
				wantBases(t, s, a, b, asked...)
				wantApart(t, s, a, b, modelAhead(s, a, b), modelAhead(s, b, a))
				wantRelation(t, s, a, b, kind)
				bases[min(len(asked), 2)]++
				kinds[kind]++
			}
			if t.Failed() {
				t.Fatalf("seed %d: %x, %x", seed, a, b)
			}
		}
	}
	enough(t, errs, api.OK, api.ErrNone, api.ErrKind, api.ErrRing)
	enough(t, kinds, api.RelSame, api.RelAhead, api.RelBehind, api.RelParted, api.RelAlien)
	enough(t, bases, 0, 1, 2)
}

// P12.4: what follows of Reduce.
func TestReduceFollows(t *testing.T) {
	for seed := range int64(300) {
		r := rand.New(rand.NewSource(seed))
		s, ids := wild(t, r, 0)
		l := some(r, ids)
		left, err := parents.Reduce(s, l...)
		if err != api.OK {
			t.Fatal(err)
		}
		wantReduce(t, s, left, left...)
		for i, id := range left {
			for j, other := range left {
				if i != j && isAncestor(s, id, other) {
					t.Fatalf("seed %d: %x came of %x", seed, other, id)
				}
			}
		}
		for _, id := range l {
			if !slices.ContainsFunc(left, func(other api.Id) bool { return isAncestor(s, id, other) }) {
				t.Fatalf("seed %d: nothing came of %x", seed, id)
			}
		}
		more := slices.Concat(l, l)
		more = more[:len(l)+r.Intn(len(l)+1)]
		r.Shuffle(len(more), func(i, j int) { more[i], more[j] = more[j], more[i] })
		again, err := parents.Reduce(s, more...)
		slices.Sort(again)
		slices.Sort(left)
		want(t, "Reduce of the same", left...)(again, err)
	}
}

// P12.4: what follows of Bases.
func TestBasesFollow(t *testing.T) {
	for seed := range int64(300) {
		r := rand.New(rand.NewSource(seed))
		s, ids := wild(t, r, 0)
		a, b := ids[r.Intn(len(ids))], ids[r.Intn(len(ids))]
		bases, err := parents.Bases(s, a, b)
		if err != api.OK {
			t.Fatal(err)
		}
		wantReduce(t, s, bases, bases...)
		common := modelCommon(s, a, b)
		for _, id := range common {
			if !slices.ContainsFunc(bases, func(base api.Id) bool { return isAncestor(s, id, base) }) {
				t.Fatalf("seed %d: %x is below no base of %x and %x", seed, id, a, b)
			}
		}
		for _, id := range bases {
			if !slices.Contains(common, id) {
				t.Fatalf("seed %d: the base %x of %x and %x is not common", seed, id, a, b)
			}
		}
		if isAncestor(s, a, b) {
			wantBases(t, s, a, b, a)
			wantBases(t, s, b, a, a)
		}
		other, err := parents.Bases(s, b, a)
		slices.Sort(other)
		slices.Sort(bases)
		want(t, "Bases changed about", bases...)(other, err)
	}
}

// P12.4: what follows of Apart, and of Relation.
func TestApartFollows(t *testing.T) {
	turned := []int{api.RelNone, api.RelSame, api.RelBehind, api.RelAhead, api.RelParted, api.RelAlien}
	for seed := range int64(300) {
		r := rand.New(rand.NewSource(seed))
		s, ids := wild(t, r, 0)
		a, b := ids[r.Intn(len(ids))], ids[r.Intn(len(ids))]
		n, m, err := parents.Apart(s, a, b)
		if err != api.OK {
			t.Fatal(err)
		}
		if (n == 0 && m == 0) != (a == b) || (n == 0) != isAncestor(s, a, b) || (m == 0) != isAncestor(s, b, a) {
			t.Fatalf("seed %d: Apart(%x, %x): %d, %d", seed, a, b, n, m)
		}
		wantApart(t, s, b, a, m, n)
		kind, err := parents.Relation(s, a, b)
		if err != api.OK || kind < api.RelSame || kind > api.RelAlien {
			t.Fatalf("seed %d: Relation(%x, %x): %d %d", seed, a, b, kind, err)
		}
		wantRelation(t, s, b, a, turned[kind])
	}
}
