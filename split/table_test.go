package split_test

import (
	"slices"
	"testing"

	"espalier/api"
	"espalier/pathmap"
	"espalier/split"
)

// P16.3: two kept commits that have one commit of their own: its source is the first one.
func TestSourceFirst(t *testing.T) {
	s, _ := open(t)
	m := mapOf(t, keep("a"))
	one := put(t, s, api.Commit{Tree: made(t, s, "a/x", "1", "b", "1"), Text: "t"})
	two := put(t, s, api.Commit{Tree: made(t, s, "a/x", "1", "b", "2"), Text: "t"})
	own := idOf(api.Commit{Tree: made(t, s, "a/x", "1"), Text: "t"})
	for _, heads := range [][]api.Id{{one, two}, {two, one}} {
		join := commit(t, s, "join", files{"a/x", "1"}, heads...)
		u := wantTable(t, "one own", stand(heads[0], own, true), stand(heads[1], own, true), stand(join, own, false))(split.Of(s, m, join))
		wantSource(t, u, own, heads[0], true)
		wantHead(t, u, own)
		v := wantTable(t, "the first is known", stand(heads[1], own, true), stand(join, own, false))(split.From(s, m, learned{heads[0]: own}, join))
		wantSource(t, v, own, heads[1], true)
	}
}

// P16.3: Source is asked of the own commits of new ones alone.
func TestSourceNone(t *testing.T) {
	s, _ := open(t)
	h, m := chapter(t, s), mapOf(t, keep("a"))
	u, _ := split.Of(s, m, h.five)
	for _, id := range list(0, missing, h.one, h.two, h.five) {
		wantSource(t, u, id, 0, false)
	}
	v, _ := split.From(s, m, u, h.six)
	wantSource(t, v, h.b, 0, false) // 6 is new, and pruned; 4 is kept, and known
	wantSource(t, v, h.a, 0, false)
	half, _ := split.From(s, m, learned{h.two: h.a}, h.five)
	wantSource(t, half, h.a, 0, false)
	wantSource(t, half, h.b, h.four, true)
}

// P16.3: a commit that is its own projection is kept, and is its own commit.
func TestOwnItself(t *testing.T) {
	s, _ := open(t)
	one := commit(t, s, "1", files{"x", "1"})
	two := commit(t, s, "2", files{"x", "2"}, one)
	same := commit(t, s, "3", files{"x", "2"}, two)
	next := commit(t, s, "4", files{"x", "3"}, same)
	own := idOf(commitOf("4", made(t, s, "x", "3"), two))
	u := wantTable(t, "by Trivial", stand(one, one, true), stand(two, two, true), stand(same, two, false), stand(next, own, true))(split.Of(s, pathmap.Trivial(), next))
	wantSource(t, u, two, two, true)
	wantHead(t, u, own)
	v := wantTable(t, "the own history", stand(one, one, true), stand(two, two, true), stand(own, own, true))(split.Of(s, pathmap.Trivial(), own))
	wantHead(t, v, own)
}

// P16.3: a head for which nothing stands in.
func TestHeadNone(t *testing.T) {
	s, _ := open(t)
	h, m := chapter(t, s), mapOf(t, keep("none"))
	u, err := split.Of(s, m, h.five)
	if err != api.OK {
		t.Fatal(err)
	}
	wantHead(t, u, 0)
	for _, id := range list(h.one, h.two, h.three, h.four, h.five) {
		wantStandin(t, u, id, 0, true)
	}
	wantSource(t, u, 0, 0, false)
	wantHead(t, wantTable(t, "known")(split.From(s, m, u, h.five)), 0)
	wantTable(t, "more", stand(h.six, 0, false))(split.From(s, m, u, h.six))
}

// P16.3: a Table asks what is known when it is asked, and tells its own commits itself.
func TestAsksKnown(t *testing.T) {
	s, _ := open(t)
	h, m := chapter(t, s), mapOf(t, keep("a"))
	split.Of(s, m, h.two)
	k := learned{h.two: h.a}
	u, err := split.From(s, m, k, h.four)
	if err != api.OK {
		t.Fatal(err)
	}
	k[h.six], k[h.four] = h.b, missing
	wantStandin(t, u, h.six, h.b, true)
	wantStandin(t, u, h.four, h.b, true)
	wantStandin(t, u, h.two, h.a, true)
	delete(k, h.six)
	wantStandin(t, u, h.six, 0, false)
	v, err := split.From(s, m, vague{}, h.four)
	if err != api.OK {
		t.Fatal(err)
	}
	wantStandin(t, v, h.six, 0, false)
}

// R3: what a Table tells is new memory each time.
func TestTellsNewMemory(t *testing.T) {
	s, _ := open(t)
	h, m := chapter(t, s), mapOf(t, keep("a"))
	u, _ := split.Of(s, m, h.five)
	all, pairs := u.All(), u.Pairs()
	asked, askedPairs := slices.Clone(all), slices.Clone(pairs)
	clear(all[:cap(all)])
	clear(pairs[:cap(pairs)])
	_ = append(all[:2], api.Standing{Commit: missing})
	wantTable(t, "told again", asked...)(u, api.OK)
	if told := u.Pairs(); !slices.Equal(told, askedPairs) {
		t.Errorf("Pairs: %+v, not %+v", told, askedPairs)
	}
	wantSource(t, u, h.a, h.two, true)
}

// P16.3: Tables behind one another, each of one commit more.
func TestTablesInARow(t *testing.T) {
	s, _ := open(t)
	m := mapOf(t, keep("a"))
	var u *split.Table
	var chain []api.Id
	for k := range 300 {
		var parents []api.Id
		if k > 0 {
			parents = list(chain[k-1])
		}
		chain = append(chain, commit(t, s, string(rune('A'+k)), files{"a/x", string(rune('A' + k/3)), "b", string(rune('A' + k))}, parents...))
		next, err := split.From(s, m, u, chain[k])
		if err != api.OK || next.Projected() != 1 || len(next.All()) != 1 || next.All()[0].Kept != (k%3 == 0) {
			t.Fatalf("%d: %d %+v", k, err, next.All())
		}
		u = next
	}
	of, err := split.Of(s, m, chain[299])
	if err != api.OK || of.Projected() != 300 {
		t.Fatal(err)
	}
	for _, p := range of.Pairs() {
		wantStandin(t, u, p.From, p.To, true)
	}
	wantHead(t, u, of.Head())
}
