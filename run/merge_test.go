package run_test

import (
	"bytes"
	"math"
	"math/rand"
	"slices"
	"testing"

	"espalier/api"
	"espalier/run"
)

// P17.4: of several pairs with one From that of the first run that has it.
func TestMerge(t *testing.T) {
	one, two, three := bytesOf(pair(3, 9), pair(7, 0)), bytesOf(pair(3, 4), pair(5, 5)), bytesOf(pair(1, 1), pair(5, 6), pair(7, 7), pair(math.MaxUint64, 2))
	none := bytesOf()
	for _, c := range []struct {
		runs  [][]byte
		asked []api.Pair
	}{
		{[][]byte{none}, nil},
		{[][]byte{none, none, none}, nil},
		{[][]byte{one}, list(pair(3, 9), pair(7, 0))},
		{[][]byte{one, one, one}, list(pair(3, 9), pair(7, 0))},
		{[][]byte{none, one}, list(pair(3, 9), pair(7, 0))},
		{[][]byte{one, none}, list(pair(3, 9), pair(7, 0))},
		{[][]byte{one, two}, list(pair(3, 9), pair(5, 5), pair(7, 0))},
		{[][]byte{two, one}, list(pair(3, 4), pair(5, 5), pair(7, 0))},
		{[][]byte{one, two, three}, list(pair(1, 1), pair(3, 9), pair(5, 5), pair(7, 0), pair(math.MaxUint64, 2))},
		{[][]byte{three, two, one}, list(pair(1, 1), pair(3, 4), pair(5, 6), pair(7, 7), pair(math.MaxUint64, 2))},
		{[][]byte{two, none, three, one}, list(pair(1, 1), pair(3, 4), pair(5, 5), pair(7, 7), pair(math.MaxUint64, 2))},
	} {
		wantBytes(t, "Merge", bytesOf(c.asked...))(run.Merge(c.runs...))
	}
	list := [][]byte{one, two, three}
	if _, err := run.Merge(list...); err != api.OK || !bytes.Equal(list[0], one) || !bytes.Equal(list[2], three) {
		t.Errorf("the runs are changed: %d", err)
	}
}

// P17.4: MaxRun unlike Froms, and one more; those that several runs have count once.
func TestMergeLong(t *testing.T) {
	full := bytesOf(many(api.MaxRun)...)
	all := many(api.MaxRun)
	lower, upper := bytesOf(all[:api.MaxRun/2]...), bytesOf(all[api.MaxRun/2:]...)
	beyond := bytesOf(pair(2, 1))
	wantBytes(t, "both halves", full)(run.Merge(upper, lower))
	wantBytes(t, "all twice", full)(run.Merge(full, lower, full, upper, bytesOf()))
	wantBytes(t, "another To", full)(run.Merge(full, bytesOf(pair(1, 77), pair(3, 77))))
	wantNoBytes(t, "one more", api.ErrLong)(run.Merge(full, beyond))
	wantNoBytes(t, "one more ahead", api.ErrLong)(run.Merge(beyond, full))
	wantNoBytes(t, "one more, of three", api.ErrLong)(run.Merge(lower, beyond, upper))
	wantNoBytes(t, "one more at the end", api.ErrLong)(run.Merge(full, bytesOf(pair(math.MaxUint64, 1))))
	wantNoBytes(t, "twice as many", api.ErrLong)(run.Merge(full, beyond, full, bytesOf(pair(4, 1))))
	// What is broken goes ahead, wherever it stands.
	wantNoBytes(t, "too many, and broken", api.ErrBroken)(run.Merge(full, beyond, full[1:]))
	wantNoBytes(t, "too many, and broken", api.ErrBroken)(run.Merge(nil, full, beyond))
}

// P17.4: a run that is none, at each place.
func TestMergeBroken(t *testing.T) {
	for at := range 5 {
		for _, wrong := range [][]byte{nil, {}, {0}, bytesOf(pair(0, 1)), bytesOf(pair(3, 1), pair(3, 1)), bytesOf(pair(5, 1), pair(3, 1)), append(bytesOf(), 0)} {
			runs := slices.Repeat([][]byte{bytesOf(pair(3, 9))}, 5)
			runs[at] = wrong
			wantNoBytes(t, "a run that is none", api.ErrBroken)(run.Merge(runs...))
		}
	}
}

// P17.4: very many runs.
func TestMergeManyRuns(t *testing.T) {
	var runs [][]byte
	for k := range 50000 {
		runs = append(runs, bytesOf(pair(api.Id(1+k%5000), api.Id(k))))
	}
	var asked []api.Pair
	for k := range 5000 {
		asked = append(asked, pair(api.Id(1+k), api.Id(k)))
	}
	wantBytes(t, "many runs", bytesOf(asked...))(run.Merge(runs...))
	full := bytesOf(many(api.MaxRun)...)
	wantBytes(t, "many runs that are full", full)(run.Merge(slices.Repeat([][]byte{full}, 20)...))
	for k := range api.MaxRun + 1 {
		if k < len(runs) {
			runs[k] = bytesOf(pair(api.Id(1+k), 1))
			continue
		}
		runs = append(runs, bytesOf(pair(api.Id(1+k), 1)))
	}
	wantNoBytes(t, "one run too many", api.ErrLong)(run.Merge(runs...))
	if b, err := run.Merge(runs[1:]...); err != api.OK || len(b) != 3+16*api.MaxRun+8 {
		t.Errorf("just as many: %d bytes, %d", len(b), err)
	}
}

// randomRuns is some runs, whose Froms are often the same.
func randomRuns(r *rand.Rand) [][]api.Pair {
	lists := make([][]api.Pair, r.Intn(7))
	for k := range lists {
		for from := range api.Id(12) {
			if r.Intn(3) == 0 {
				lists[k] = append(lists[k], pair(1+from*from*from*1e15, api.Id(r.Intn(4))))
			}
		}
	}
	return lists
}

// firstOf is what the first list that has a From says of it.
func firstOf(lists [][]api.Pair, from api.Id) (api.Id, api.Errno) {
	for _, l := range lists {
		for _, p := range l {
			if p.From == from {
				return p.To, api.OK
			}
		}
	}
	return 0, api.ErrNone
}

// joined is the pairs of all lists by the chapter's words.
func joined(lists [][]api.Pair) []api.Pair {
	var all []api.Pair
	for _, p := range slices.Concat(lists...) {
		if slices.ContainsFunc(all, func(q api.Pair) bool { return q.From == p.From }) {
			continue
		}
		at := 0
		for at < len(all) && all[at].From < p.From {
			at++
		}
		all = slices.Insert(all, at, p)
	}
	return all
}

// P17.1 to P17.5: random runs by the model; Merge by parts; Find in a Merge.
func TestByModel(t *testing.T) {
	for seed := range int64(2000) {
		r := rand.New(rand.NewSource(seed))
		lists := randomRuns(r)
		var runs [][]byte
		for _, l := range lists {
			mixed := slices.Clone(l)
			r.Shuffle(len(mixed), func(i, k int) { mixed[i], mixed[k] = mixed[k], mixed[i] })
			b := made(t, mixed...)
			wantRun(t, b, l...)
			wantBytes(t, "Make of Each", b)(run.Make(slices.Collect(run.Each(b))))
			wantBytes(t, "Merge of one", b)(run.Merge(b))
			runs = append(runs, b)
		}
		asked := joined(lists)
		whole, err := run.Merge(runs...)
		wantBytes(t, "Merge", bytesOf(asked...))(whole, err)
		wantParts(t, runs, whole)
		for from := range api.Id(13) {
			id := 1 + from*from*from*1e15
			to, err := firstOf(lists, id)
			wantFind(t, whole, id, to, err)
			wantFind(t, whole, id+1, 0, api.ErrNone)
		}
		for to := range api.Id(5) {
			var froms []api.Id
			for _, p := range asked {
				if p.To == to {
					froms = append(froms, p.From)
				}
			}
			wantSources(t, whole, to, froms...)
		}
		if t.Failed() {
			t.Fatalf("seed %d", seed)
		}
	}
}

// wantParts wants runs that are merged by parts, in order, to be the whole.
func wantParts(t *testing.T, runs [][]byte, whole []byte) {
	t.Helper()
	for at := range len(runs) + 1 {
		for to := at; to <= len(runs); to++ {
			part, err := run.Merge(runs[at:to]...)
			if err != api.OK {
				t.Fatal(err)
			}
			parts := append(slices.Clone(runs[:at]), part)
			wantBytes(t, "by parts", whole)(run.Merge(append(parts, runs[to:]...)...))
		}
	}
}
