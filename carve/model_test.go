package carve_test

import (
	"fmt"
	"math/rand"
	"slices"
	"testing"

	"espalier/api"
	"espalier/carve"
	"espalier/disk"
	"espalier/graph"
	"espalier/memo"
	"espalier/pathmap"
	"espalier/split"
	"espalier/store"
)

// world is a host's history in a store where nothing is ever carved, Maps by which it can be carved, and what has come of it by now.
type world struct {
	t       *testing.T
	plain   *disk.Disk
	commits []api.Id
	maps    []*pathmap.Map
	known   []map[api.Id]api.Id // what the memo of each Map has to know
	led     []api.Id            // where the side of each Map has to lead; 0: nowhere
}

func some[V any](r *rand.Rand, list []V) V { return list[r.Intn(len(list))] }

// someWorld is commits that came of each other anyhow, and say little, so that many of them are pruned.
func someWorld(t *testing.T, r *rand.Rand, n int) *world {
	t.Helper()
	w := &world{t: t, plain: disk.New()}
	s, err := store.Open(w.plain)
	if err != api.OK {
		t.Fatal(err)
	}
	var trees []api.Id
	for _, f := range []files{nil, {"b", "1"}, {"b", "2"}, {"a/x", "1"}, {"a/x", "1", "b", "1"}, {"a/x", "2"}, {"a/x", "1", "a/y", "1"}, {"a/y", "1", "b", "2"}} {
		trees = append(trees, made(t, s, f...))
	}
	few := []api.Id{some(r, trees), some(r, trees), some(r, trees), some(r, trees)}
	for range n {
		c := api.Commit{Tree: some(r, few), Author: "a", Text: some(r, []string{"t", "t", "u"})}
		for range some(r, []int{0, 1, 1, 1, 2, 2, 3}) {
			if len(w.commits) > 0 {
				c.Parents = append(c.Parents, w.commits[len(w.commits)-1-min(r.Intn(len(w.commits)), r.Intn(len(w.commits)))])
			}
		}
		w.commits = append(w.commits, put(t, s, c))
	}
	for _, rules := range [][]api.Rule{{keep("a")}, {keep("")}, nil, {move("a", "")}, {keep("a"), drop("a/y")}, {keep(""), drop("a")}, {move("b", "c"), move("a", "b")}} {
		w.maps = append(w.maps, mapOf(t, rules...))
	}
	w.forget()
	return w
}

// forget is how all stands where nothing was carved yet.
func (w *world) forget() {
	w.known, w.led = nil, make([]api.Id, len(w.maps))
	for range w.maps {
		w.known = append(w.known, map[api.Id]api.Id{})
	}
}

// split is what split.Of tells of a commit where nothing is known.
func (w *world) split(m *pathmap.Map, host api.Id) *split.Table {
	w.t.Helper()
	s, err := store.Open(w.plain.Copy())
	if err != api.OK {
		w.t.Fatal(err)
	}
	table, err := split.Of(s, m, host)
	if err != api.OK {
		w.t.Fatalf("split.Of(%x): %d", host, err)
	}
	return table
}

// asked is what a carve has to tell, by split.Of and by what the memo has to know; learn takes in what it knows from then on.
func (w *world) asked(k int, host api.Id) (sum api.Carved, learn func()) {
	w.t.Helper()
	table := w.split(w.maps[k], host)
	sum.Head = table.Head()
	for _, standing := range table.All() {
		if _, known := w.known[k][standing.Commit]; !known {
			sum.New++
			sum.Projected++
			if standing.Kept {
				sum.Kept++
			}
		}
	}
	return sum, func() {
		for _, p := range table.Pairs() {
			w.known[k][p.From] = p.To
		}
	}
}

// wantKnown wants the memo of each Map to know just what it has to, and its side to lead where it has to.
func (w *world) wantKnown(d *disk.Disk) {
	w.t.Helper()
	c := open(w.t, d.Copy())
	for k, m := range w.maps {
		wantRef(w.t, c, side(k), w.led[k])
		known, err := memo.Open(d.Copy(), m.Key())
		if err != api.OK {
			w.t.Fatal(err)
		}
		if known.Len() != len(w.known[k]) {
			w.t.Errorf("%q: %d pairs, not %d", m.Text(), known.Len(), len(w.known[k]))
		}
		for p := range known.Each() {
			if to, is := w.known[k][p.From]; !is || to != p.To {
				w.t.Errorf("%q: the pair %x, not %x", m.Text(), p, to)
			}
		}
	}
}

// wantTrue wants each pair of each memo of a disk to be one that split.Of tells, and each ref to lead to a closure that is whole.
func (w *world) wantTrue(d *disk.Disk) {
	w.t.Helper()
	d = d.Copy()
	texts := map[api.Id]string{}
	for key, text := range carve.Texts(d) {
		texts[key] = text
	}
	for _, key := range memo.Keys(d) {
		k := slices.IndexFunc(w.maps, func(m *pathmap.Map) bool { return m.Key() == key })
		if k < 0 || texts[key] != w.maps[k].Text() {
			w.t.Fatalf("a memo of the key %x, whose rules are %q", key, texts[key])
		}
		known, err := memo.Open(d, key)
		if err != api.OK {
			w.t.Fatal(err)
		}
		for p := range known.Each() {
			if head := w.split(w.maps[k], p.From).Head(); head != p.To {
				w.t.Errorf("%q: the pair %x, not %x", w.maps[k].Text(), p, head)
			}
		}
	}
	c := open(w.t, d)
	for name, id := range c.Refs().All() {
		if err := graph.Whole(c.Store(), id); err != api.OK {
			w.t.Errorf("%s leads to %x, which is not whole: %d", name, id, err)
		}
	}
}

// side is the ref to which a Map's carves go.
func side(k int) string { return fmt.Sprintf("side/%d", k) }

// carve carves a commit by a Map, as it has to be, and tells whether it was cut.
func (w *world) carve(c *carve.Carver, k int, host api.Id) bool {
	w.t.Helper()
	if err := c.Refs().Set(ref("host", host)); err != api.OK {
		return true
	}
	asked, learn := w.asked(k, host)
	told, err := c.Carve(w.maps[k], "host", side(k))
	if err != api.OK {
		if told != (api.Carved{}) || err != api.ErrCut {
			w.t.Fatalf("%q: %+v %d", w.maps[k].Text(), told, err)
		}
		wantRef(w.t, c, side(k), w.led[k])
		return true
	}
	if told != asked {
		w.t.Errorf("%q of %x: %+v, not %+v", w.maps[k].Text(), host, told, asked)
	}
	learn()
	w.led[k] = asked.Head
	wantRef(w.t, c, side(k), asked.Head)
	return false
}

// relearn takes the memos for what they know behind a cut: what was known ahead of it, and all or nothing of what the cut carve found.
func (w *world) relearn(d *disk.Disk, k int, host api.Id) {
	w.t.Helper()
	known, err := memo.Open(d.Copy(), w.maps[k].Key())
	if err != api.OK {
		w.t.Fatal(err)
	}
	if known.Len() > len(w.known[k]) {
		_, learn := w.asked(k, host)
		learn()
	}
	w.wantKnown(d)
}

// P19.3, P19.4, P19.6, P19.7: commits carved anyhow, by Maps by turns, by one Carver or several one behind the other.
func TestByModel(t *testing.T) {
	for seed := range int64(400) {
		r := rand.New(rand.NewSource(seed))
		w := someWorld(t, r, 1+r.Intn(14))
		d := w.plain.Copy()
		c := open(t, d)
		for range 12 {
			if r.Intn(4) == 0 {
				c = open(t, d)
			}
			k := r.Intn(len(w.maps))
			if w.carve(c, k, some(r, w.commits)) {
				t.Fatal("cut")
			}
			w.wantKnown(d)
		}
		w.wantTrue(d)
		if t.Failed() {
			t.Fatalf("seed %d", seed)
		}
	}
}

// P19.6 to P19.8: carves, each cut behind any number of raw writes, mended, opened again or not, and gone on.
func TestCutAnyhow(t *testing.T) {
	cuts := 0
	for seed := range int64(300) {
		r := rand.New(rand.NewSource(seed))
		w := someWorld(t, r, 1+r.Intn(12))
		w.maps = w.maps[:3]
		d := w.plain.Copy()
		c := open(t, d)
		for range 15 {
			k, host := r.Intn(len(w.maps)), some(r, w.commits)
			d.Cut(r.Intn(25))
			if w.carve(c, k, host) {
				cuts++
				w.wantTrue(d)
				d.Mend()
				c = open(t, d)
				w.relearn(d, k, host)
			}
			d.Mend()
			w.wantKnown(d)
		}
		w.wantTrue(d)
		if t.Failed() {
			t.Fatalf("seed %d", seed)
		}
	}
	if cuts < 500 {
		t.Errorf("%d cuts", cuts)
	}
}

// plan is carves of hosts, Map by Map.
type plan []struct {
	k    int
	host api.Id
}

// somePlan is carves of ever more of a history, by two Maps by turns, now and then of less.
func somePlan(r *rand.Rand, w *world) plan {
	var l plan
	for n := range 12 {
		host := w.commits[(n+1)*len(w.commits)/12-1]
		if r.Intn(4) == 0 {
			host = some(r, w.commits)
		}
		l = append(l, plan{{n % 2, host}}...)
	}
	return l
}

// do does a plan from a step on, and tells the one that was cut; as many as there are, if none was.
func (l plan) do(w *world, c *carve.Carver, from int) int {
	w.t.Helper()
	for n, step := range l[from:] {
		if w.carve(c, step.k, step.host) {
			return from + n
		}
	}
	return len(l)
}

// runs is the greatest number that a run file of a Map's memo has.
func runs(t *testing.T, d *disk.Disk, m *pathmap.Map) int {
	t.Helper()
	known, err := memo.Open(d.Copy(), m.Key())
	if err != api.OK {
		t.Fatal(err)
	}
	return slices.Max(append(known.Runs(), 0))
}

// P19.6 to P19.8: two Maps by turns, the disk cut at each raw write of all of it, mended, and gone on by another Carver: sides as ahead of the carve that was cut, true pairs, and in the end all that there is without a cut.
func TestCutEverywhere(t *testing.T) {
	joined := 0
	for seed := range int64(10) {
		r := rand.New(rand.NewSource(seed))
		w := someWorld(t, r, 24)
		w.maps = []*pathmap.Map{w.maps[0], w.maps[6]}
		l := somePlan(r, w)
		whole := w.plain.Copy()
		if at := l.do(w, open(t, whole), 0); at < len(l) {
			t.Fatal("cut")
		}
		for _, m := range w.maps {
			if runs(t, whole, m) > api.MaxRuns {
				joined++
			}
		}
		for cut := range whole.Writes() + 1 {
			w.forget()
			d := w.plain.Copy()
			d.Cut(cut)
			at := l.do(w, open(t, d), 0)
			if (at < len(l)) != (cut < whole.Writes()) {
				t.Fatalf("cut at %d: step %d", cut, at)
			}
			w.wantTrue(d)
			d.Mend()
			c := open(t, d)
			if at < len(l) {
				w.relearn(d, l[at].k, l[at].host)
			}
			if n := l.do(w, c, at); n < len(l) {
				t.Fatalf("cut at %d: step %d", cut, n)
			}
			w.wantKnown(d)
			wantRefs(t, "at the end", d, open(t, whole).Refs().Under("")...)
			if t.Failed() {
				t.Fatalf("seed %d, cut at %d", seed, cut)
			}
		}
	}
	if joined < 5 {
		t.Errorf("runs were made one %d times", joined)
	}
}

// P19.8: one carve, cut at each of its raw writes: behind it the side leads where it led, or to the Head, and the memo has all pairs or none.
func TestCutOneCarve(t *testing.T) {
	for _, ahead := range []bool{false, true} {
		c, whole, h := chapterDisk(t)
		m := mapOf(t, keep("a"))
		led := api.Id(0)
		if ahead {
			set(t, c, ref("host", h.two))
			wantCarved(t, "2", h.a, 2, 1, 2)(c.Carve(m, "host", "side"))
			set(t, c, ref("host", h.five))
			led = h.a
		}
		writes := writesOf(t, whole, m)
		if writes < 6 {
			t.Fatalf("%d raw writes alone", writes)
		}
		pairs := map[int]int{}
		for cut := range writes + 1 {
			d := whole.Copy()
			d.Cut(cut)
			told, err := open(t, d).Carve(m, "host", "side")
			if (err == api.OK) != (cut == writes) || err != api.OK && (err != api.ErrCut || told != (api.Carved{})) {
				t.Fatalf("cut at %d: %+v %d", cut, told, err)
			}
			d.Mend()
			c := open(t, d)
			if err == api.OK {
				led = h.b
			}
			wantRef(t, c, "side", led)
			n := memoOf(t, c, m).Len()
			pairs[n]++
			kept := map[int]int{0: 2, 2: 1, 5: 0}[n]
			wantCarved(t, "again", h.b, 5-n, kept, 5-n)(c.Carve(m, "host", "side"))
			wantRef(t, c, "side", h.b)
		}
		if none := map[bool]int{false: 0, true: 2}[ahead]; len(pairs) != 2 || pairs[none] < 3 || pairs[5] < 2 {
			t.Errorf("pairs behind the cuts: %v", pairs)
		}
	}
}

// P19.6: the same Carver, once the disk is mended, tells the right Head or that it was cut, and remembers nothing wrong.
func TestSameCarverBehindCut(t *testing.T) {
	_, whole, h := chapterDisk(t)
	m := mapOf(t, keep("a"))
	fine := 0
	for cut := range writesOf(t, whole, m) {
		d := whole.Copy()
		c := open(t, d)
		d.Cut(cut)
		wantNone(t, "cut", api.ErrCut)(c.Carve(m, "host", "side"))
		d.Mend()
		told, err := c.Carve(m, "host", "side")
		switch {
		case err == api.OK && told.Head == h.b:
			fine++
			wantRef(t, open(t, d), "side", h.b)
		case err != api.ErrCut || told != (api.Carved{}):
			t.Errorf("cut at %d: %+v %d", cut, told, err)
		default:
			wantRef(t, open(t, d), "side", 0)
		}
		again, err := open(t, d).Carve(m, "host", "side")
		if again.Head != h.b || err != api.OK {
			t.Errorf("cut at %d: %+v %d", cut, again, err)
		}
	}
	if fine == 0 {
		t.Error("no cut of a memo or of rules is gone over")
	}
}

// P19.7: when k commits have come since, just these are projected, however long the history is; behind later cuts, too.
func TestOnce(t *testing.T) {
	c, d := onDisk(t)
	s, m := c.Store(), mapOf(t, keep("a"))
	trees := []api.Id{made(t, s, "a", "1"), made(t, s, "a", "2", "b", "1"), made(t, s, "a", "2")}
	var head api.Id
	grow := func(n int) {
		for k := range n {
			next := api.Commit{Tree: trees[k%3], Text: "t"}
			if head != 0 {
				next.Parents = []api.Id{head}
			}
			head = put(t, c.Store(), next)
		}
		set(t, c, ref("host", head))
	}
	count := 0
	for k, n := range []int{3000, 1, 0, 7, 300, 1, 1, 1, 1, 1, 1, 1, 0, 3000} {
		grow(n)
		count += n
		told, err := c.Carve(m, "host", "side")
		if err != api.OK || told.New != n || told.Projected != n {
			t.Fatalf("%d: %+v %d", k, told, err)
		}
		if known := memoOf(t, c, m); known.Len() != count {
			t.Errorf("%d: %d pairs, not %d", k, known.Len(), count)
		}
		d.Cut(3)
		c.Carve(mapOf(t, keep("a"), keep("b")), "host", "other")
		d.Mend()
		c = open(t, d)
	}
	of, err := split.Of(c.Store(), m, head)
	if err != api.OK {
		t.Fatal(err)
	}
	wantRef(t, c, "side", of.Head())
}
