package embed_test

import (
	"math/rand"
	"slices"
	"strings"
	"testing"

	"espalier/api"
	"espalier/disk"
	"espalier/embed"
	"espalier/graph"
	"espalier/object"
	"espalier/pathmap"
	"espalier/project"
	"espalier/split"
	"espalier/store"
	"espalier/tree"
)

// model tells what has to come of the calls by the chapter's words, in a store of its own, with nothing known.
type model struct {
	t *testing.T
	s *store.Store
	m *pathmap.Map
}

func (w model) commit(id api.Id) api.Commit {
	w.t.Helper()
	c, err := w.s.Commit(id)
	if err != api.OK {
		w.t.Fatalf("%x is no commit: %d", id, err)
	}
	return c
}

// proper goes by what the Words say of each commit and of each file.
func (w model) proper(side api.Id) api.Errno {
	u, err := split.Of(w.s, pathmap.Trivial(), side)
	if err != api.OK {
		return err
	}
	for _, standing := range u.All() {
		if standing.Standin != standing.Commit {
			return api.ErrImproper
		}
		for path := range tree.Walk(w.s, w.commit(standing.Commit).Tree) {
			if _, err := w.m.Source(path); err != api.OK && err != api.ErrLong {
				return api.ErrImproper
			}
		}
	}
	return api.OK
}

// places goes by which commits are kept, as split.Of tells of all of them.
func (w model) places(host api.Id) (map[api.Id]api.Id, api.Id, api.Errno) {
	if host == 0 {
		return nil, 0, api.OK
	}
	u, err := split.Of(w.s, w.m, host)
	if err != api.OK {
		return nil, 0, err
	}
	places := map[api.Id]api.Id{}
	for _, standing := range slices.Backward(u.All()) {
		if standing.Kept {
			places[standing.Standin] = standing.Commit
		}
	}
	if u.Head() != 0 {
		places[u.Head()] = host
	}
	return places, u.Head(), api.OK
}

// isAncestor tells it of commits whose histories are right.
func (w model) isAncestor(a, b api.Id) bool {
	w.t.Helper()
	yes, err := graph.Ancestor(w.s, a, b)
	if err != api.OK {
		w.t.Fatalf("Ancestor(%x, %x): %d", a, b, err)
	}
	return yes
}

// base is the tree of the commit on which one with those parents stands.
func (w model) base(host api.Id, parents []api.Id) api.Id {
	w.t.Helper()
	if len(parents) == 0 {
		return putTree(w.t, w.s)
	}
	at := slices.IndexFunc(parents, func(parent api.Id) bool { return host != 0 && w.isAncestor(host, parent) })
	return w.commit(parents[max(at, 0)]).Tree
}

// join is P20.3's answer, and of each commit that is made the tree of its base.
func (w model) join(host, side api.Id, by api.Commit) (told api.Joined, bases []api.Id, err api.Errno) {
	if err := w.proper(side); err != api.OK {
		return api.Joined{}, nil, err
	}
	if err := object.Check(api.Commit{Tree: 1, Author: by.Author, Date: by.Date, Text: by.Text}); err != api.OK {
		return api.Joined{}, nil, err
	}
	stands, carved, err := w.places(host)
	if err != api.OK {
		return api.Joined{}, nil, err
	}
	if carved != 0 && !w.isAncestor(carved, side) {
		return api.Joined{}, nil, api.ErrParted
	}
	if stands == nil {
		stands = map[api.Id]api.Id{}
	}
	order, _ := graph.Order(w.s, side)
	for _, x := range order {
		if _, there := stands[x]; there {
			continue
		}
		c := w.commit(x)
		for k, parent := range c.Parents {
			c.Parents[k] = stands[parent]
		}
		base := w.base(host, c.Parents)
		if c.Tree, err = project.Back(w.s, w.m, base, c.Tree); err != api.OK {
			return api.Joined{}, nil, err
		}
		stands[x] = put(w.t, w.s, c)
		told.Made = append(told.Made, pair(x, stands[x]))
		bases = append(bases, base)
	}
	told.Head = stands[side]
	if host == 0 || w.isAncestor(host, stands[side]) {
		return told, bases, api.OK
	}
	by.Parents = list(host, stands[side])
	if by.Tree, err = project.Back(w.s, w.m, w.commit(host).Tree, w.commit(side).Tree); err != api.OK {
		return api.Joined{}, nil, err
	}
	told.Merge = put(w.t, w.s, by)
	told.Head = told.Merge
	return told, bases, api.OK
}

// scene is rules, files of hosts, and files of sides, most of which are images.
type scene struct {
	rules        []api.Rule
	hosts, sides []files
}

// scenes has such rules that what is laid back may clash, or be too long.
func scenes() []scene {
	hosts := []files{nil, {"b", "1"}, {"b", "2"}, {"a/x", "1"}, {"a/x", "1", "b", "1"}, {"a/x", "1", "b", "2"}, {"a/x", "2"}, {"a/x", "2", "a/y", "1"}, {"a/x", "1", "a/y", "2", "b", "1"}, {"a/y", "1", "b", "2"}}
	same := []files{nil, {"a/x", "1"}, {"a/x", "2"}, {"a/x", "3"}, {"a/x", "1", "a/z", "1"}, {"a/z", "2"}}
	moved := []files{nil, {"x", "1"}, {"x", "2"}, {"x", "3"}, {"x", "1", "z", "1"}, {"z", "2"}}
	far := slices.Concat(moved, []files{{"xx", "1"}})
	return []scene{
		{[]api.Rule{keep("a")}, hosts, same},
		{[]api.Rule{keep("")}, hosts, slices.Concat(same, hosts)},
		{[]api.Rule{move("a", "")}, hosts, moved},
		{[]api.Rule{move("a", "lib/a")}, hosts, []files{nil, {"lib/a/x", "1"}, {"lib/a/x", "2"}, {"lib/a/y/z", "1"}}},
		{[]api.Rule{keep("a"), drop("a/y")}, hosts, slices.Concat(same, []files{{"a/x/w", "1"}})},
		{[]api.Rule{keep("a/x")}, hosts, []files{nil, {"a/x", "1"}, {"a/x", "2"}, {"a/x/w", "1"}}},
		{[]api.Rule{keep("a/x")}, slices.Concat(hosts, []files{{"a", "1"}, {"a", "2"}}), []files{nil, {"a/x", "1"}, {"a/x", "2"}, {"a/x/w", "1"}}},
		{[]api.Rule{move("b", "c"), move("a", "b")}, hosts, []files{nil, {"b/x", "1"}, {"c", "1"}, {"b/x", "2", "c", "1"}, {"b/x", "2", "c", "2"}}},
		{[]api.Rule{move("", "sub")}, hosts, []files{nil, {"sub/x", "1"}, {"sub/a/x", "2"}, {"sub/b", "1"}, {"sub", "1"}}},
		{[]api.Rule{move(long(), "")}, hosts, far},
		{[]api.Rule{keep("none")}, hosts, []files{nil, {"none", "1"}, {"none/x", "2"}}},
		{nil, hosts, moved},
	}
}

// play is a store with a host's history, and what came of it by now.
type play struct {
	t     *testing.T
	r     *rand.Rand
	s     *store.Store
	d     *disk.Disk
	m     *pathmap.Map
	scene scene
	hosts []api.Id
	sides []api.Id
}

func some[V any](r *rand.Rand, list []V) V { return list[r.Intn(len(list))] }

func newPlay(t *testing.T, r *rand.Rand) *play {
	t.Helper()
	p := &play{t: t, r: r, scene: some(r, scenes())}
	p.s, p.d = open(t)
	p.m = mapOf(t, p.scene.rules...)
	for range r.Intn(9) {
		p.growHost()
	}
	for range 1 + r.Intn(5) {
		p.growSide()
	}
	return p
}

// from is up to n of a list, those behind more often.
func (p *play) from(list []api.Id, n int) []api.Id {
	var ids []api.Id
	for range n {
		if len(list) > 0 {
			ids = append(ids, list[len(list)-1-min(p.r.Intn(len(list)), p.r.Intn(len(list)))])
		}
	}
	return ids
}

// growHost has a commit come of those of the host anyhow, which says little, so that many are pruned, and some have one own commit.
func (p *play) growHost() {
	p.t.Helper()
	c := api.Commit{Tree: made(p.t, p.s, some(p.r, p.scene.hosts)...), Author: "a", Text: some(p.r, []string{"t", "t", "t", "u"})}
	c.Parents = p.from(p.hosts, some(p.r, []int{0, 1, 1, 1, 2, 2}))
	p.hosts = append(p.hosts, put(p.t, p.s, c))
}

// growSide has a commit come of those of the side and of what is carved from the host; most are proper.
func (p *play) growSide() {
	p.t.Helper()
	pool := slices.Clone(p.sides)
	if len(p.hosts) > 0 {
		for _, host := range p.from(p.hosts, 1) {
			if u, err := split.Of(p.s, p.m, host); err == api.OK {
				for _, standing := range u.All() {
					if standing.Kept {
						pool = append(pool, standing.Standin)
					}
				}
			}
		}
	}
	c := api.Commit{Tree: made(p.t, p.s, some(p.r, p.scene.sides)...), Author: "s", Text: some(p.r, []string{"t", "u"})}
	c.Parents = p.from(pool, some(p.r, []int{0, 1, 1, 1, 2, 2, 3}))
	id := put(p.t, p.s, c)
	if p.r.Intn(10) > 0 {
		// What stands in for it by Trivial is proper, wherever all its paths are images.
		if u, err := split.Of(p.s, pathmap.Trivial(), id); err == api.OK && u.Head() != 0 {
			id = u.Head()
		}
	}
	p.sides = append(p.sides, id)
}

// twin is a model in a store with the same objects.
func (p *play) twin() model {
	p.t.Helper()
	return model{p.t, openDisk(p.t, p.d.Copy()), p.m}
}

// known is true pairs of a host's history: none, some, all, or those of a Table.
func (p *play) known(host api.Id) split.Known {
	p.t.Helper()
	if host == 0 || p.r.Intn(3) == 0 {
		return some(p.r, []split.Known{nil, learned{}, (*split.Table)(nil)})
	}
	at := some(p.r, append(p.hosts, host, host))
	u, err := split.Of(p.s, p.m, at)
	if err != api.OK {
		return nil
	}
	if p.r.Intn(2) == 0 {
		return u
	}
	k := learned{}
	for _, pair := range u.Pairs() {
		if p.r.Intn(2) == 0 {
			k[pair.From] = pair.To
		}
	}
	return k
}

// counts is how often what came.
type counts map[string]int

func (n counts) want(t *testing.T, least int, keys ...string) {
	t.Helper()
	for _, key := range keys {
		if n[key] < least {
			t.Errorf("%q came %d times: %v", key, n[key], n)
		}
	}
}

func (n counts) told(host api.Id, told api.Joined, bases []api.Id, w model, err api.Errno) {
	n[map[api.Errno]string{api.OK: "fine", api.ErrImproper: "improper", api.ErrParted: "parted", api.ErrClash: "clash", api.ErrLong: "long", api.ErrRight: "right"}[err]]++
	switch {
	case err != api.OK:
		return
	case host == 0:
		n["into none"]++
	case told.Merge != 0:
		n["merged"]++
	case len(told.Made) == 0:
		n["nothing made"]++
	default:
		n["onto the host"]++
	}
	for k, p := range told.Made {
		c := w.commit(p.To)
		switch {
		case len(c.Parents) > 1 && bases[k] != w.commit(c.Parents[0]).Tree:
			n["on a later parent"]++
		case len(c.Parents) > 1:
			n["on the first parent"]++
		case len(c.Parents) == 0:
			n["on nothing"]++
		}
	}
}

// P20.1 to P20.3: hosts and sides of all kinds, joined again and again, with much known or nothing; and P20.4 of what was joined.
func TestByModel(t *testing.T) {
	n := counts{}
	for seed := range int64(4000) {
		r := rand.New(rand.NewSource(seed))
		p := newPlay(t, r)
		for range 6 {
			host, side := some(r, append(p.hosts, 0)), some(r, append(p.sides, p.sides[len(p.sides)-1]))
			if p.r.Intn(2) == 0 && len(p.hosts) > 0 {
				host = p.hosts[len(p.hosts)-1]
			}
			p.step(n, host, side)
			if t.Failed() {
				t.Fatalf("seed %d: by %q, %x and %x", seed, p.m.Text(), host, side)
			}
			if p.r.Intn(2) == 0 {
				p.growHost()
			}
			p.growSide()
		}
	}
	n.want(t, 50, "fine", "improper", "parted", "clash", "long", "right", "into none", "merged", "nothing made", "onto the host", "on a later parent", "on the first parent", "on nothing")
}

// step joins a side into a host, as it has to be; a host goes on from it.
func (p *play) step(n counts, host, side api.Id) {
	p.t.Helper()
	by := some(p.r, []api.Commit{{}, text("join"), text("join"), text("join"), {Author: "é", Date: -7}, {Text: "\xff"}})
	w := p.twin()
	wantErr(p.t, "Proper", w.proper(side), embed.Proper(p.s, p.m, side))
	places, _, err := w.places(host)
	k := p.known(host)
	if err != api.OK {
		wantNoPlaces(p.t, "Places", err)(embed.Places(p.s, p.m, k, host))
	} else {
		var asked []api.Pair
		for x, place := range places {
			asked = append(asked, pair(x, place))
		}
		wantPlaces(p.t, "Places", asked...)(embed.Places(p.s, p.m, k, host))
	}
	asked, bases, err := w.join(host, side, by)
	n.told(host, asked, bases, w, err)
	if err != api.OK {
		wantNotJoined(p.t, "Join", err)(embed.Join(p.s, p.m, k, host, side, by))
		return
	}
	wantJoined(p.t, "Join", asked)(embed.Join(p.s, p.m, k, host, side, by))
	for _, pair := range append(asked.Made, pair(0, asked.Head)) {
		wantCommit(p.t, p.s, pair.To, w.commit(pair.To))
		wantErr(p.t, "Whole", api.OK, graph.Whole(p.s, pair.To))
	}
	p.follows(host, side, asked, bases)
	p.hosts = append(p.hosts, asked.Head)
}

// follows is what has to follow of a join.
func (p *play) follows(host, side api.Id, told api.Joined, bases []api.Id) {
	p.t.Helper()
	w := model{p.t, p.s, p.m}
	if host != 0 && !w.isAncestor(host, told.Head) {
		p.t.Errorf("%x is no ancestor of %x", host, told.Head)
	}
	for k, pair := range told.Made {
		p.wantAlikeOutside(w.commit(pair.To).Tree, bases[k])
	}
	if told.Merge != 0 {
		p.wantAlikeOutside(w.commit(told.Head).Tree, w.commit(host).Tree)
	}
	_, carved, err := w.places(host)
	wantErr(p.t, "what stands in for the host", api.OK, err)
	if carved != 0 && told.Merge != 0 {
		p.t.Errorf("%x is merged into %x, from which %x is carved", side, host, carved)
	}
	if carved == side && (told.Head != host || len(told.Made) != 0) {
		p.t.Errorf("%x was carved from %x, and is joined: %x", side, host, told)
	}
	wantCarved(p.t, p.s, p.m, told.Head, side, told.Made...)
	k := p.known(told.Head)
	before := p.s.Len()
	wantJoined(p.t, "again", api.Joined{Head: told.Head})(embed.Join(p.s, p.m, k, told.Head, side, text("again")))
	if p.s.Len() != before {
		p.t.Error("again, and something is put in")
	}
}

func (p *play) wantAlikeOutside(a, b api.Id) {
	p.t.Helper()
	one, err := project.Outside(p.s, p.m, a)
	two, other := project.Outside(p.s, p.m, b)
	if one != two || err != api.OK || other != api.OK {
		p.t.Errorf("outside of %x is %x, of %x %x", a, one, b, two)
	}
}

// P20.3, P20.4: a host that can't be carved is refused; where it is known what stands in for it, it is joined, though its Head can't be carved.
func TestJoinNotCarved(t *testing.T) {
	s, _ := open(t)
	m, by := mapOf(t, keep("a"), move("b", strings.TrimSuffix(strings.Repeat("d/", 15), "/"))), text("join")
	deep := commit(t, s, "deep", files{"b/c/d", "1"})
	side := commit(t, s, "side", files{"a/x", "3"})
	wantNotJoined(t, "a host that can't be carved", api.ErrLong)(embed.Join(s, m, nil, deep, side, by))
	// What of the host has an image goes, as the side has all that is seen of it.
	merge := idOf(mergeOf(by, made(t, s, "a/x", "3"), deep, side))
	asked := api.Joined{Head: merge, Made: pairs(pair(side, side)), Merge: merge}
	wantJoined(t, "a host for which nothing stands in, as is known", asked)(embed.Join(s, m, learned{deep: 0}, deep, side, by))
	wantNotJoined(t, "its Head", api.ErrLong)(embed.Join(s, m, nil, merge, side, by))
	wantJoined(t, "its Head, of which enough is known", api.Joined{Head: merge})(embed.Join(s, m, learned{deep: 0, merge: side}, merge, side, by))
}
