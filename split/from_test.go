package split_test

import (
	"testing"

	"espalier/api"
	"espalier/pathmap"
	"espalier/split"
)

// P16.2: heads that are no commits, and histories that lead to such ones.
func TestOfErrors(t *testing.T) {
	s, _ := open(t)
	m, wrong := pathmap.Trivial(), wrongCommits(t, s)
	fine := commit(t, s, "fine", files{"x", "1"})
	next := commit(t, s, "next", files{"x", "2"}, bare(t, s, "empty"))
	wantNoTable(t, "nothing", api.ErrNone)(split.Of(s, m, 0))
	for id, err := range wrong {
		child := commit(t, s, "child", files{"x", "2"}, next, id)
		grandchild := commit(t, s, "grandchild", files{"x", "2"}, fine, child)
		before := s.Len()
		wantNoTable(t, "a wrong head", err)(split.Of(s, m, id))
		wantNoTable(t, "a wrong parent", err)(split.Of(s, m, child))
		wantNoTable(t, "a wrong ancestor", err)(split.Of(s, m, grandchild))
		wantSince(t, "a history that is not read to its end", s, before)
		for other := range wrong {
			two := commit(t, s, "two", files{"x", "2"}, fine, id, other)
			wantNoTable(t, "the first of two", err)(split.Of(s, m, two))
			wantNoTable(t, "the first of two, one known", err)(split.From(s, m, learned{fine: fine}, two))
		}
	}
	own := idOf(commitOf("next", made(t, s, "x", "2")))
	wantTable(t, "without a wrong one", stand(bare(t, s, "empty"), 0, false), stand(next, own, true))(split.Of(s, m, next))
}

// P16.2: rings, begun at each of their commits, and come to from outside.
func TestRings(t *testing.T) {
	s, _ := open(t)
	m := pathmap.Trivial()
	a := bare(t, s, "a")
	x, y := twoRing(t, s)
	p, q, r := threeRing(t, s)
	for _, id := range list(selfRing(t, s), midRing(t, s), x, y, p, q, r) {
		wantNoTable(t, "a ring", api.ErrRing)(split.Of(s, m, id))
		wantNoTable(t, "a ring and a known one", api.ErrRing)(split.From(s, m, learned{a: 0}, id))
		child := bare(t, s, "child", a, id, missing)
		wantNoTable(t, "a ring's child", api.ErrRing)(split.Of(s, m, child))
		wantNoTable(t, "a ring behind what is missing", api.ErrNone)(split.Of(s, m, bare(t, s, "late", missing, id)))
		wantNoTable(t, "a ring behind what is no commit", api.ErrKind)(split.Of(s, m, bare(t, s, "kind", putTree(t, s), id)))
	}
	// Several ways to one commit are none.
	b := bare(t, s, "b", a, a)
	c := bare(t, s, "c", a, b, a)
	wantTable(t, "no ring", stand(a, 0, false), stand(b, 0, false), stand(c, 0, false))(split.Of(s, m, c))
}

// P16.2: what is known is not gone beyond, so that no ring is met that leads through it.
func TestRingsKnown(t *testing.T) {
	s, _ := open(t)
	m := pathmap.Trivial()
	self, mid := selfRing(t, s), midRing(t, s)
	a, empty := bare(t, s, "a"), idOf(api.Tree{})
	wantTable(t, "a known ring")(split.From(s, m, learned{self: 0}, self))
	child := bare(t, s, "child", self)
	wantTable(t, "a known ring's child", stand(child, 0, false))(split.From(s, m, learned{self: 0}, child))
	wantTable(t, "a known ring's child, for which something stands", stand(child, a, false))(split.From(s, m, learned{self: a}, child))
	wantNoTable(t, "another one is known", api.ErrRing)(split.From(s, m, learned{self: 0, missing: 0}, mid))

	x, y := twoRing(t, s)
	wantTable(t, "x of y", stand(x, 0, false))(split.From(s, m, learned{y: 0}, x))
	wantTable(t, "y of x", stand(y, a, false))(split.From(s, m, learned{x: a}, y))
	one := commit(t, s, "one", files{"x", "1"})
	own := idOf(api.Commit{Tree: empty, Parents: list(one), Text: "two"})
	u := wantTable(t, "y of x, kept", stand(y, own, true))(split.From(s, m, learned{x: one}, y))
	wantStandin(t, u, x, one, true)
	wantNoTable(t, "what stands in is a ring", api.ErrRing)(split.From(s, m, learned{x: x}, y))

	p, q, r := threeRing(t, s)
	b := bare(t, s, "b", a)
	wantNoTable(t, "p is known, but not what is missing", api.ErrNone)(split.From(s, m, learned{p: 0}, q))
	wantTable(t, "p, and what is missing", stand(a, 0, false), stand(b, 0, false), stand(r, 0, false), stand(q, 0, false))(split.From(s, m, learned{p: 0, missing: 0}, q))
	wantTable(t, "q alone", stand(a, 0, false), stand(p, 0, false))(split.From(s, m, learned{q: 0}, p))
	wantNoTable(t, "what is missing alone", api.ErrRing)(split.From(s, m, learned{missing: 0, a: 0, b: 0}, q))
}

// P16.2: all new commits are read ahead of the first Step; then the first Step's error, and what was put in by then stays.
func TestErrorsInOrder(t *testing.T) {
	s, _ := open(t)
	empty := bare(t, s, "empty")
	for _, i := range illTrees(t, s) {
		bad := put(t, s, commitOf("bad", i.tree, empty))
		late, later := bare(t, s, "late", bad, missing), bare(t, s, "late", bad, selfRing(t, s))
		before := s.Len()
		wantNoTable(t, "a wrong tree", i.err)(split.Of(s, i.m, bad))
		wantNoTable(t, "a wrong tree, its parent known", i.err)(split.From(s, i.m, learned{empty: 0}, bad))
		wantNoTable(t, "a wrong tree ahead of what is missing", api.ErrNone)(split.Of(s, i.m, late))
		wantNoTable(t, "a wrong tree ahead of a ring", api.ErrRing)(split.Of(s, i.m, later))
		wantTable(t, "a wrong tree that is known")(split.From(s, i.m, learned{bad: 0}, bad))
		wantSince(t, "a wrong tree", s, before)
	}
	m := pathmap.Trivial()
	one := commit(t, s, "one", files{"x", "1"}, empty)
	own := idOf(commitOf("one", made(t, s, "x", "1")))
	none, kind := put(t, s, commitOf("none", missing, one)), put(t, s, commitOf("kind", empty, one))
	both, other := bare(t, s, "both", none, kind), bare(t, s, "other", kind, none)
	before := s.Len()
	wantNoTable(t, "the first of two trees", api.ErrNone)(split.Of(s, m, both))
	wantSince(t, "ahead of the error", s, before, own)
	wantNoTable(t, "the first of two trees", api.ErrKind)(split.Of(s, m, other))
	wantSince(t, "once more", s, before, own)
}

// P16.2: what is known is asked of the head, of parents, and of no commit beyond.
func TestKnown(t *testing.T) {
	s, _ := open(t)
	h, m := chapter(t, s), mapOf(t, keep("a"))
	of, err := split.Of(s, m, h.five)
	if err != api.OK {
		t.Fatal(err)
	}
	for _, k := range []split.Known{nil, learned(nil), learned{}, (*split.Table)(nil), vague{}} {
		u := wantTable(t, "nothing is known", of.All()...)(split.From(s, m, k, h.five))
		wantHead(t, u, h.b)
		wantStandin(t, u, h.six, 0, false)
	}
	// What is known need be in no store, and is true for whoever says it.
	for _, id := range list(missing, 0, putTree(t, s), h.five) {
		for _, standin := range list(missing, 0, h.a) {
			u := wantTable(t, "a known head")(split.From(s, m, learned{id: standin}, id))
			wantHead(t, u, standin)
			wantStandin(t, u, id, standin, true)
			wantStandin(t, u, h.six, 0, false)
			wantSource(t, u, standin, 0, false)
		}
	}
	u := wantTable(t, "3 and 4 are known", stand(h.five, h.b, false))(split.From(s, m, learned{h.three: h.a, h.four: h.b}, h.five))
	wantStandin(t, u, h.two, 0, false)
	wantTable(t, "4 is known", stand(h.one, 0, false), stand(h.two, h.a, true), stand(h.three, h.a, false), stand(h.six, h.b, false))(split.From(s, m, learned{h.four: h.b}, h.six))
	wantTable(t, "2 is known", stand(h.three, h.a, false), stand(h.four, h.b, true), stand(h.five, h.b, false))(split.From(s, m, learned{h.two: h.a}, h.five))
	alone := idOf(commitOf("3", made(t, s, "a/x", "1")))
	other := idOf(commitOf("4", made(t, s, "a/x", "2")))
	both := idOf(commitOf("5", made(t, s, "a/x", "2"), alone, other))
	wantTable(t, "of 2 it is known that nothing stands in", stand(h.three, alone, true), stand(h.four, other, true), stand(h.five, both, true))(split.From(s, m, learned{h.two: 0}, h.five))
}

// vague says of all that it is not known, and something beside that.
type vague struct{}

func (vague) Standin(c api.Id) (api.Id, bool) { return c, false }

// P16.2: errors of what stands in for commits that are known.
func TestKnownWrong(t *testing.T) {
	s, _ := open(t)
	h, m := chapter(t, s), mapOf(t, keep("a"))
	for standin, err := range wrongCommits(t, s) {
		before := s.Len()
		wantNoTable(t, "a wrong stand-in", err)(split.From(s, m, learned{h.two: standin}, h.four))
		wantNoTable(t, "a wrong stand-in", err)(split.From(s, m, learned{h.two: standin}, h.three))
		wantSince(t, "a wrong stand-in", s, before)
		wantNoTable(t, "a wrong stand-in behind one", err)(split.From(s, m, learned{h.three: h.three, h.four: standin}, h.five))
		wantNoTable(t, "a wrong stand-in ahead", err)(split.From(s, m, learned{h.three: standin, h.four: missing}, h.five))
		wantTable(t, "a wrong stand-in of the head")(split.From(s, m, learned{h.two: standin}, h.two))
		wantTable(t, "a wrong stand-in of another one", stand(h.one, 0, false))(split.From(s, m, learned{h.two: standin}, h.one))
		// A right one ahead, which is trusted by then, does not cover it.
		three := commit(t, s, "three", files{"a/x", "2"}, h.four, h.three)
		wantNoTable(t, "a wrong stand-in later on", err)(split.From(s, m, learned{h.one: 0, h.three: standin}, three))
	}
}

// P16.2: the order of the history: parents from the first on, each commit behind them; known ones are passed over, and what is beyond them comes where another way leads to it.
func TestOrder(t *testing.T) {
	s, _ := open(t)
	m := mapOf(t)
	a, b := bare(t, s, "a"), bare(t, s, "b")
	c := bare(t, s, "c", a, b)
	d := bare(t, s, "d", b, a)
	e := bare(t, s, "e", d, c, b)
	f := bare(t, s, "f", c, e)
	for _, o := range []struct {
		k     learned
		head  api.Id
		asked []api.Id
	}{
		{nil, c, list(a, b, c)},
		{nil, d, list(b, a, d)},
		{nil, e, list(b, a, d, c, e)},
		{nil, f, list(a, b, c, d, e, f)},
		{learned{c: 0}, f, list(b, a, d, e, f)},
		{learned{c: 0, d: 0}, f, list(b, e, f)},
		{learned{c: 0, e: 0}, f, list(f)},
		{learned{a: 0}, f, list(b, c, d, e, f)},
		{learned{a: 0, b: 0, c: 0, d: 0, e: 0}, f, list(f)},
		{learned{f: 0}, f, nil},
	} {
		var asked []api.Standing
		for _, id := range o.asked {
			asked = append(asked, stand(id, 0, false))
		}
		wantTable(t, "the order", asked...)(split.From(s, m, o.k, o.head))
	}
}
