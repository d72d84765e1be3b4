package split_test

import (
	"math/rand"
	"slices"
	"strings"
	"testing"

	"espalier/api"
	"espalier/disk"
	"espalier/graph"
	"espalier/pathmap"
	"espalier/split"
	"espalier/store"
	"espalier/tree"
)

// model tells what stands in by the chapters' words, in a store of its own.
type model struct {
	t *testing.T
	s *store.Store
	m *pathmap.Map
}

// read is a commit, by another call than the package reads it.
func (w model) read(id api.Id) (api.Commit, api.Errno) {
	o, err := w.s.Get(id)
	if err != api.OK {
		return api.Commit{}, err
	}
	if c, ok := o.(api.Commit); ok {
		return c, api.OK
	}
	return api.Commit{}, api.ErrKind
}

// walk puts the new commits of a history behind those of an order.
func (w model) walk(k learned, id api.Id, being []api.Id, order *[]api.Id) api.Errno {
	if slices.Contains(being, id) {
		return api.ErrRing
	}
	if _, known := k[id]; known || slices.Contains(*order, id) {
		return api.OK
	}
	c, err := w.read(id)
	if err != api.OK {
		return err
	}
	for _, parent := range c.Parents {
		if err := w.walk(k, parent, append(being, id), order); err != api.OK {
			return err
		}
	}
	*order = append(*order, id)
	return api.OK
}

// reaches says whether a commit leads to another one; their histories are right.
func (w model) reaches(from, to api.Id) bool {
	if from == to {
		return true
	}
	c, _ := w.read(from)
	return slices.ContainsFunc(c.Parents, func(parent api.Id) bool { return w.reaches(parent, to) })
}

// reduced is a list without what stands ahead in it, and without ancestors of others.
func (w model) reduced(list []api.Id) ([]api.Id, api.Errno) {
	var order, left []api.Id
	for _, id := range list {
		if err := w.walk(nil, id, nil, &order); err != api.OK {
			return nil, err
		}
	}
	for _, id := range list {
		above := func(other api.Id) bool { return other != id && w.reaches(other, id) }
		if !slices.Contains(left, id) && !slices.ContainsFunc(list, above) {
			left = append(left, id)
		}
	}
	return left, api.OK
}

// projection is that of a tree, file by file.
func (w model) projection(id api.Id) (api.Id, api.Errno) {
	if err := tree.Sound(w.s, id); err != api.OK {
		return 0, err
	}
	var list []api.File
	root := false
	for path, blob := range tree.Walk(w.s, id) {
		image, err := w.m.Image(path)
		switch {
		case err == api.ErrLong:
			return 0, err
		case err == api.OK && image == "":
			root = true
		case err == api.OK:
			list = append(list, api.File{Path: image, Blob: blob})
		}
	}
	if root {
		return 0, api.ErrClash
	}
	return tree.Of(w.s, list)
}

// step is P16.1's answer.
func (w model) step(id api.Id, standins []api.Id) (api.Standing, api.Errno) {
	c, err := w.read(id)
	if err != api.OK {
		return api.Standing{}, err
	}
	left, err := w.reduced(slices.DeleteFunc(slices.Clone(standins), func(id api.Id) bool { return id == 0 }))
	if err != api.OK {
		return api.Standing{}, err
	}
	root, err := w.projection(c.Tree)
	if err != api.OK {
		return api.Standing{}, err
	}
	if len(left) == 0 && root == idOf(api.Tree{}) {
		return stand(id, 0, false), api.OK
	}
	if len(left) == 1 {
		if only, _ := w.read(left[0]); only.Tree == root {
			return stand(id, left[0], false), api.OK
		}
	}
	c.Tree, c.Parents = root, left
	own, err := w.s.Put(c)
	if err != api.OK {
		return api.Standing{}, err
	}
	return stand(id, own, true), api.OK
}

// from is P16.2's answer.
func (w model) from(k learned, head api.Id) ([]api.Standing, api.Errno) {
	var order []api.Id
	if err := w.walk(k, head, nil, &order); err != api.OK {
		return nil, err
	}
	told := learned{}
	for c, standin := range k {
		told[c] = standin
	}
	var all []api.Standing
	for _, id := range order {
		c, _ := w.read(id)
		var standins []api.Id
		for _, parent := range c.Parents {
			standins = append(standins, told[parent])
		}
		standing, err := w.step(id, standins)
		if err != api.OK {
			return nil, err
		}
		told[id] = standing.Standin
		all = append(all, standing)
	}
	return all, api.OK
}

// someRules is sets of rules for the files of some.
func someRules() [][]api.Rule {
	return [][]api.Rule{
		{keep("a")},
		{keep("")},
		nil,
		{move("a", "")},
		{keep("a"), drop("a/y")},
		{keep(""), drop("a"), keep("a/y")},
		{move("b", "c"), move("a", "b")},
		{move("b", "")},
		{move("a", strings.Repeat(strings.Repeat("l", 32)+"/", 6)+"l")},
	}
}

// some is one of a list.
func some[V any](r *rand.Rand, list []V) V { return list[r.Intn(len(list))] }

// someTrees is trees, the first of them those that come often.
func someTrees(t *testing.T, s *store.Store) []api.Id {
	t.Helper()
	var trees []api.Id
	for _, f := range []files{
		nil, {"b", "1"}, {"b", "2"}, {"a/x", "1"}, {"a/x", "1", "b", "1"}, {"a/x", "1", "b", "2"}, {"a/x", "2"}, {"a/x", "1", "a/y", "1"}, {"a/x", "1", "a/y", "2", "b", "1"}, {"a/y", "1", "b", "2"},
		{"b/x", "1"}, {"a/x", "1", "b/x", "1"},
	} {
		trees = append(trees, made(t, s, f...))
	}
	return trees
}

// wild is commits that came of each other anyhow, and say little, so that many of them say the same; the more harm, the more lead to what is wrong.
func wild(t *testing.T, r *rand.Rand, s *store.Store, harm int) []api.Id {
	t.Helper()
	trees := someTrees(t, s)
	x, y := twoRing(t, s)
	wrong := list(missing, trees[0], selfRing(t, s), midRing(t, s), x, y)
	broken := list(missing, x, made(t, s, "a/xxx", "1"), putTree(t, s, api.Entry{Name: "a", Folder: true, Id: trees[0]}), putTree(t, s, api.Entry{Name: "b", Id: missing}))
	few := list(some(r, trees[:10]), some(r, trees[:10]), some(r, trees[:10]), some(r, trees[:10]))
	unlike := r.Intn(8)
	var commits []api.Id
	for range 1 + r.Intn(16) {
		c := api.Commit{Tree: some(r, few), Author: "a", Date: -1, Text: "t"}
		switch r.Intn(8 + unlike) {
		case 8:
			c.Author = "b"
		case 9:
			c.Date = 1
		case 10, 11, 12, 13, 14, 15:
			c.Text = "u"
		}
		if r.Intn(40) < harm {
			c.Tree = some(r, slices.Concat(trees[10:], broken))
		}
		for range some(r, []int{0, 1, 1, 1, 2, 2, 3}) {
			if r.Intn(80) < harm {
				c.Parents = append(c.Parents, some(r, wrong))
			} else if len(commits) > 0 {
				c.Parents = append(c.Parents, commits[len(commits)-1-min(r.Intn(len(commits)), r.Intn(len(commits)))])
			}
		}
		commits = append(commits, put(t, s, c))
	}
	return commits
}

// twin is a store with the same objects.
func twin(t *testing.T, d *disk.Disk) *store.Store {
	t.Helper()
	return openDisk(t, d.Copy())
}

// counts is how often what came.
type counts map[string]int

func (n counts) want(t *testing.T, least int, keys ...string) {
	t.Helper()
	for _, key := range keys {
		if n[key] < least {
			t.Errorf("%q came %d times: %v", key, n[key], n)
		}
	}
}

func errorName(err api.Errno) string {
	return map[api.Errno]string{api.OK: "fine", api.ErrNone: "none", api.ErrKind: "kind", api.ErrRing: "ring", api.ErrLong: "long", api.ErrClash: "clash", api.ErrBroken: "broken"}[err]
}

// someKnown is pairs of some of the commits: true ones, as far as there are any, or, with harm, any.
func someKnown(r *rand.Rand, commits []api.Id, pairs []api.Pair, harm int) learned {
	k := learned{}
	for _, p := range pairs {
		if r.Intn(3) == 0 {
			k[p.From] = p.To
		}
	}
	for range harm {
		if r.Intn(3) == 0 {
			k[some(r, append(commits, missing, 2, 5))] = some(r, append(commits, 0, 0, missing, 2, idOf(api.Tree{})))
		}
	}
	return k
}

// P16.1 to P16.3: histories by rules, with much known, little, or nothing.
func TestByModel(t *testing.T) {
	n := counts{}
	for seed := range int64(3000) {
		r := rand.New(rand.NewSource(seed))
		s, d := open(t)
		harm := int(seed % 4)
		commits := wild(t, r, s, harm)
		w := model{t, twin(t, d), mapOf(t, some(r, someRules())...)}
		var pairs []api.Pair
		for k := range 6 {
			head := some(r, append(commits, commits[len(commits)-1]))
			known := learned{}
			if k > 0 {
				known = someKnown(r, commits, pairs, harm)
			}
			asked, askedErr := w.from(known, head)
			u, err := split.From(s, w.m, known, head)
			n[errorName(askedErr)]++
			if askedErr != api.OK {
				wantNoTable(t, "From", askedErr)(u, err)
			} else {
				wantTable(t, "From", asked...)(u, err)
				wantTold(t, u, asked, known, head, commits)
				wantSameCommits(t, s, w.s, asked)
				count(n, w, asked)
				if k == 0 {
					pairs = u.Pairs()
				}
			}
			if t.Failed() {
				t.Fatalf("seed %d: by %s, of %x, known %x", seed, w.m.Text(), head, known)
			}
		}
	}
	n.want(t, 50, "fine", "none", "kind", "ring", "long", "clash", "broken", "kept merge", "pruned merge", "nothing", "kept root", "kept", "pruned", "one own for two")
}

// wantTold wants a Table to tell what follows from what stands in for the new commits and what is known.
func wantTold(t *testing.T, u *split.Table, all []api.Standing, k learned, head api.Id, commits []api.Id) {
	t.Helper()
	told, first := learned{}, learned{}
	for c, standin := range k {
		told[c] = standin
	}
	for _, standing := range all {
		told[standing.Commit] = standing.Standin
		if _, there := first[standing.Standin]; standing.Kept && !there {
			first[standing.Standin] = standing.Commit
		}
	}
	wantHead(t, u, told[head])
	for _, c := range append(commits, missing, 0) {
		standin, known := told[c]
		wantStandin(t, u, c, standin, known)
		source, there := first[c]
		wantSource(t, u, c, source, there)
		source, there = first[standin]
		wantSource(t, u, standin, source, there)
	}
}

// wantSameCommits wants a store to have the own commits that another one has.
func wantSameCommits(t *testing.T, s, other *store.Store, all []api.Standing) {
	t.Helper()
	for _, standing := range all {
		if standing.Kept {
			c, _ := other.Commit(standing.Standin)
			wantCommit(t, s, standing.Standin, c)
		}
	}
}

// count counts which cases there were.
func count(n counts, w model, all []api.Standing) {
	own := map[api.Id]int{}
	for _, standing := range all {
		c, _ := w.read(standing.Commit)
		o, _ := w.read(standing.Standin)
		switch {
		case standing.Standin == 0:
			n["nothing"]++
		case !standing.Kept && len(c.Parents) > 1:
			n["pruned merge"]++
		case !standing.Kept:
			n["pruned"]++
		case len(o.Parents) == 0:
			n["kept root"]++
		case len(o.Parents) > 1:
			n["kept merge"]++
		default:
			n["kept"]++
		}
		if standing.Kept {
			if own[standing.Standin]++; own[standing.Standin] == 2 {
				n["one own for two"]++
			}
		}
	}
}

// P16.1: Step of any commits, with any lists.
func TestStepByModel(t *testing.T) {
	n := counts{}
	for seed := range int64(3000) {
		r := rand.New(rand.NewSource(seed))
		s, d := open(t)
		commits := wild(t, r, s, int(seed%3))
		w := model{t, twin(t, d), mapOf(t, some(r, someRules())...)}
		any := append(commits, 0, 0)
		if seed%3 > 0 {
			any = append(any, missing, 2, idOf(api.Tree{}))
		}
		for range 10 {
			var standins []api.Id
			for range r.Intn(5) {
				standins = append(standins, some(r, any))
			}
			id := some(r, any)
			asked, askedErr := w.step(id, standins)
			told, err := split.Step(s, w.m, id, standins...)
			n[errorName(askedErr)]++
			if askedErr != api.OK {
				wantNoStep(t, "Step", askedErr)(told, err)
			} else {
				wantStep(t, "Step", asked)(told, err)
				wantSameCommits(t, s, w.s, []api.Standing{asked})
				count(n, w, []api.Standing{asked})
			}
			if t.Failed() {
				t.Fatalf("seed %d: by %s, of %x, %x", seed, w.m.Text(), id, standins)
			}
		}
	}
	n.want(t, 30, "fine", "none", "kind", "ring", "long", "clash", "broken", "kept merge", "nothing", "kept root", "kept", "pruned")
}

// P16.4: what is carved keeps what is an ancestor of what; each stand-in has the projected tree; parents stand once, and none is an ancestor of another one; ways of pruned commits lead to them.
func TestFollows(t *testing.T) {
	n := counts{}
	for seed := range int64(3000) {
		r := rand.New(rand.NewSource(seed))
		s, d := open(t)
		commits := wild(t, r, s, 0)
		w := model{t, twin(t, d), mapOf(t, some(r, someRules()[:7])...)}
		head := commits[len(commits)-1]
		u, err := split.Of(s, w.m, head)
		if err != api.OK {
			t.Fatalf("seed %d: %d", seed, err)
		}
		count(n, model{t, s, w.m}, u.All())
		wantHistory(t, s, u, head)
		for _, standing := range u.All() {
			wantAncestors(t, s, u, standing)
			wantWays(t, s, u, standing)
			if standing.Standin != 0 {
				c, _ := s.Commit(standing.Commit)
				o, _ := s.Commit(standing.Standin)
				if root, err := w.projection(c.Tree); err != api.OK || o.Tree != root {
					t.Errorf("the tree of %x is %x, not %x", standing.Standin, o.Tree, root)
				}
			}
		}
		if t.Failed() {
			t.Fatalf("seed %d: by %s", seed, w.m.Text())
		}
	}
	n.want(t, 50, "kept merge", "pruned merge", "nothing", "kept root", "kept", "pruned", "one own for two")
}

// wantHistory wants the new commits to be the history of the head, in its order.
func wantHistory(t *testing.T, s *store.Store, u *split.Table, head api.Id) {
	t.Helper()
	order, _ := graph.Order(s, head)
	var told []api.Id
	for _, p := range u.Pairs() {
		told = append(told, p.From)
	}
	if !slices.Equal(told, order) {
		t.Errorf("%x, not %x", told, order)
	}
}

// wantAncestors wants what stands in for each ancestor of a commit to be an ancestor of what stands in for that.
func wantAncestors(t *testing.T, s *store.Store, u *split.Table, b api.Standing) {
	t.Helper()
	order, _ := graph.Order(s, b.Commit)
	for _, a := range order {
		standin, _ := u.Standin(a)
		if standin == 0 {
			continue
		}
		if yes, err := graph.Ancestor(s, standin, b.Standin); !yes || err != api.OK {
			t.Errorf("%x, which stands in for %x, is no ancestor of %x, which does for %x", standin, a, b.Standin, b.Commit)
		}
	}
}

// wantWays wants each parent of a commit's own one to be the own one of a kept commit to which a way of pruned ones leads, and no two of them to be ancestors of each other.
func wantWays(t *testing.T, s *store.Store, u *split.Table, standing api.Standing) {
	t.Helper()
	if !standing.Kept {
		return
	}
	kept := learned{}
	for _, other := range u.All() {
		if other.Kept {
			kept[other.Commit] = other.Standin
		}
	}
	var reached []api.Id
	var follow func(id api.Id)
	follow = func(id api.Id) {
		c, _ := s.Commit(id)
		for _, parent := range c.Parents {
			if own, is := kept[parent]; is {
				reached = append(reached, own)
			} else {
				follow(parent)
			}
		}
	}
	follow(standing.Commit)
	own, _ := s.Commit(standing.Standin)
	for k, parent := range own.Parents {
		if !slices.Contains(reached, parent) {
			t.Errorf("no way leads from %x to %x", standing.Commit, parent)
		}
		for j, other := range own.Parents {
			if yes, err := graph.Ancestor(s, parent, other); err != api.OK || yes && j != k {
				t.Errorf("%x has the parents %x and %x", standing.Standin, parent, other)
			}
		}
	}
}

// P16.4: From, with what other Tables know, tells what Of tells, and looks at no commit that they know.
func TestFromFollows(t *testing.T) {
	for seed := range int64(3000) {
		r := rand.New(rand.NewSource(seed))
		s, d := open(t)
		commits := wild(t, r, s, 0)
		m := mapOf(t, some(r, someRules()[:7])...)
		var u *split.Table
		for range 4 {
			head := some(r, commits)
			of, err := split.Of(twin(t, d), m, head)
			if err != api.OK {
				t.Fatalf("seed %d: %d", seed, err)
			}
			next, err := split.From(s, m, u, head)
			if err != api.OK {
				t.Fatalf("seed %d: %d", seed, err)
			}
			wantHead(t, next, of.Head())
			var fresh []api.Standing
			for _, standing := range of.All() {
				wantStandin(t, next, standing.Commit, standing.Standin, true)
				if _, known := u.Standin(standing.Commit); !known {
					fresh = append(fresh, standing)
				}
			}
			wantTable(t, "what is new", fresh...)(next, err)
			for _, c := range commits {
				if standin, known := u.Standin(c); known {
					wantStandin(t, next, c, standin, true)
				}
			}
			if t.Failed() {
				t.Fatalf("seed %d: by %s, of %x", seed, m.Text(), head)
			}
			u = next
		}
	}
}
