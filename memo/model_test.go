package memo_test

import (
	"encoding/binary"
	"maps"
	"math/rand"
	"slices"
	"strconv"
	"strings"
	"testing"

	"espalier/api"
	"espalier/disk"
	"espalier/journal"
	"espalier/run"
)

// model is a memo by the chapter's words: each question goes to the disk, and the pairs stand in a map.
type model struct {
	d      *disk.Disk
	runs   []int
	top    int
	pairs  map[api.Id]api.Id
	failed bool
}

// numbersOf is the numbers that a record says, nil and false if it is not as said.
func numbersOf(payload []byte) ([]int, bool) {
	var numbers []uint64
	for rest := payload; len(rest) > 0; {
		n, size := binary.Uvarint(rest)
		if size <= 0 {
			return nil, false
		}
		numbers, rest = append(numbers, n), rest[size:]
	}
	// Written again, so that only the short form counts.
	if len(numbers) == 0 || len(numbers) > 5 || numbers[0] != uint64(len(numbers)-1) || !slices.Equal(payload, payloadOf(numbers[1:]...)) {
		return nil, false
	}
	runs := []int{}
	for _, n := range numbers[1:] {
		if n < 1 || n > 1<<31 || slices.Contains(runs, int(n)) {
			return nil, false
		}
		runs = append(runs, int(n))
	}
	return runs, true
}

// others is the numbers of the run files that do not count, rising.
func (m *model) others() []int {
	var l []int
	for _, name := range m.d.Names() {
		digits, of := strings.CutPrefix(name, fileOf(key, 0)+"-")
		n, err := strconv.Atoi(digits)
		if of && err == nil && n > 0 && fileOf(key, n) == name && !slices.Contains(m.runs, n) {
			l = append(l, n)
		}
	}
	slices.Sort(l)
	return l
}

// openModel is Open, and what it answers.
func openModel(d *disk.Disk) (*model, api.Errno) {
	j, err := journal.Open(d, fileOf(key, 0))
	if err != api.OK {
		return nil, err
	}
	m := &model{d: d, pairs: map[api.Id]api.Id{}}
	for k, payload := range j.Each() {
		runs, right := numbersOf(payload)
		if !right && k == j.Len()-1 {
			return nil, api.ErrBroken
		}
		m.runs, m.top = runs, slices.Max(append(runs, m.top))
	}
	for _, n := range m.runs {
		b, err := d.Read(fileOf(key, n))
		if _, wrong := run.Check(b); err != api.OK || wrong != api.OK {
			return nil, api.ErrBroken
		}
		for p := range run.Each(b) {
			if _, twice := m.pairs[p.From]; twice {
				return nil, api.ErrBroken
			}
			m.pairs[p.From] = p.To
		}
	}
	for _, n := range m.others() {
		if err := d.Remove(fileOf(key, n)); err != api.OK {
			return nil, err
		}
	}
	return m, api.OK
}

func (m *model) list() []api.Pair {
	var l []api.Pair
	for _, from := range slices.Sorted(maps.Keys(m.pairs)) {
		l = append(l, pair(from, m.pairs[from]))
	}
	return l
}

// add is Add, and what it answers.
func (m *model) add(l []api.Pair) api.Errno {
	if m.failed {
		return api.ErrCut
	}
	if _, err := run.Make(l); err != api.OK {
		return err
	}
	news, all := map[api.Id]api.Id{}, maps.Clone(m.pairs)
	for _, p := range l {
		to, known := m.pairs[p.From]
		if known && to != p.To {
			return api.ErrThere
		}
		if !known {
			news[p.From], all[p.From] = p.To, p.To
		}
	}
	if len(news) == 0 {
		return api.OK
	}
	if len(all) > api.MaxRun {
		return api.ErrLong
	}
	err := m.write(news, all)
	m.failed = err != api.OK
	return err
}

func (m *model) write(news, all map[api.Id]api.Id) api.Errno {
	runs, laid, gone := append([]int{m.top + 1}, m.runs...), news, []int(nil)
	if len(m.runs) == 4 {
		runs, laid, gone = runs[:1], all, slices.Sorted(slices.Values(m.runs))
	}
	if err := m.d.Append(fileOf(key, runs[0]), runOf((&model{pairs: laid}).list()...)); err != api.OK {
		return err
	}
	var numbers []uint64
	for _, n := range runs {
		numbers = append(numbers, uint64(n))
	}
	if err := m.d.Append(fileOf(key, 0), says(numbers...)); err != api.OK {
		return err
	}
	m.runs, m.top, m.pairs = runs, runs[0], all
	for _, n := range gone {
		if err := m.d.Remove(fileOf(key, n)); err != api.OK {
			return err
		}
	}
	return api.OK
}

// wantDisk wants two disks to have the same files, and to have done as many raw writes.
func wantDisk(t *testing.T, d, asked *disk.Disk) {
	t.Helper()
	wantFiles(t, d, asked.Names()...)
	for _, name := range asked.Names() {
		b, _ := asked.Read(name)
		wantFile(t, d, name, b)
	}
	wantWrites(t, d, asked.Writes())
}

// somePairs is pairs of few Froms, nearly always with the To that each of them has in all of a test.
func somePairs(r *rand.Rand) []api.Pair {
	l := make([]api.Pair, r.Intn(5))
	for k := range l {
		from := api.Id(1 + r.Intn(40))
		l[k] = pair(from, from%3)
		if r.Intn(60) == 0 {
			l[k].To++
		}
		if r.Intn(100) == 0 {
			l[k].From = 0
		}
	}
	return l
}

// someAdds is many Adds' lists.
func someAdds(r *rand.Rand, n int) [][]api.Pair {
	rows := make([][]api.Pair, n)
	for k := range rows {
		rows[k] = somePairs(r)
	}
	return rows
}

// addAll adds to a memo of the disk and to the model, which are held against each other; it answers what came of each.
func addAll(t *testing.T, d *disk.Disk, asked *model, rows [][]api.Pair) []api.Errno {
	t.Helper()
	m := open(t, d, key)
	var told []api.Errno
	for _, l := range rows {
		err := m.Add(l...)
		if right := asked.add(l); err != right {
			t.Fatalf("Add(%v): %d, not %d", l, err, right)
		}
		told = append(told, err)
		wantPairs(t, m, asked.list()...)
		wantRuns(t, m, asked.runs...)
	}
	return told
}

// P18.1 to P18.3: many Adds by the model, the memo opened again at times.
func TestByModel(t *testing.T) {
	for seed := range int64(300) {
		r := rand.New(rand.NewSource(seed))
		d, plain := disk.New(), disk.New()
		for range 6 {
			asked, err := openModel(plain)
			if err != api.OK {
				t.Fatal(err)
			}
			addAll(t, d, asked, someAdds(r, r.Intn(8)))
			wantDisk(t, d, plain)
		}
		if t.Failed() {
			t.Fatalf("seed %d", seed)
		}
	}
}

// wantKnown wants a memo to have all pairs of Adds that were OK, of those that were cut all new ones or none, and no others.
func wantKnown(t *testing.T, d *disk.Disk, rows [][]api.Pair, told []api.Errno) {
	t.Helper()
	m := open(t, d, key)
	sure, perhaps := map[api.Id]api.Id{}, map[api.Id]api.Id{}
	cut := false
	for k, l := range rows {
		for _, p := range l {
			switch {
			case told[k] == api.OK:
				sure[p.From] = p.To
			case told[k] == api.ErrCut && !cut:
				perhaps[p.From] = p.To
			}
		}
		cut = cut || told[k] == api.ErrCut
	}
	all := maps.Clone(sure)
	maps.Copy(all, perhaps)
	if m.Len() != len(sure) {
		sure = all
	}
	wantPairs(t, m, (&model{pairs: sure}).list()...)
	var names []string
	for _, n := range m.Runs() {
		names = append(names, fileOf(key, n))
	}
	slices.Sort(names)
	beside := slices.DeleteFunc(d.Names(), func(name string) bool { return name == fileOf(key, 0) })
	if !slices.Equal(beside, names) {
		t.Errorf("files beside the journal: %v, not %v", beside, names)
	}
}

// P18.4: Adds cut at each raw write, mended, opened (which is cut at each raw write, too), gone on.
func TestCutEverywhere(t *testing.T) {
	for seed := range int64(12) {
		r := rand.New(rand.NewSource(seed))
		rows, more := someAdds(r, 12), someAdds(r, 6)
		whole := disk.New()
		asked, _ := openModel(whole)
		for _, l := range rows {
			asked.add(l)
		}
		for cut := range whole.Writes() + 1 {
			d, plain := disk.New(), disk.New()
			asked, _ := openModel(plain)
			d.Cut(cut)
			plain.Cut(cut)
			told := addAll(t, d, asked, rows)
			wantDisk(t, d, plain)
			if slices.Contains(told, api.ErrCut) != (cut < whole.Writes()) {
				t.Fatalf("seed %d, cut behind %d: %v", seed, cut, told)
			}
			d.Mend()
			wantKnown(t, d.Copy(), rows, told)
			wantOpenCut(t, d)
			next, err := openModel(d.Copy())
			if err != api.OK {
				t.Fatalf("seed %d, cut behind %d: %d", seed, cut, err)
			}
			addAll(t, d, next, more)
			wantPairs(t, open(t, d, key), next.list()...)
			if t.Failed() {
				t.Fatalf("seed %d, cut behind %d", seed, cut)
			}
		}
	}
}

// wantOpenCut wants Open, cut at each of its raw writes, to end as the model does, and to tell the same behind that; a second one writes nothing.
func wantOpenCut(t *testing.T, d *disk.Disk) {
	t.Helper()
	whole := d.Copy()
	asked, err := openModel(whole)
	if err != api.OK {
		t.Fatal(err)
	}
	for cut := range whole.Writes() + 1 {
		some := d.Copy()
		some.Cut(cut)
		if cut < whole.Writes() {
			wantNoMemo(t, "cut", some, key, api.ErrCut)
			wantWrites(t, some, cut)
			some.Mend()
		}
		m := open(t, some, key)
		wantPairs(t, m, asked.list()...)
		wantRuns(t, m, asked.runs...)
		wantDisk(t, some, whole)
		some.Cut(0)
		wantPairs(t, open(t, some, key), asked.list()...)
		wantDisk(t, some, whole)
	}
}

// someBytes is bytes that may be a record's payload, or a run's.
func someBytes(r *rand.Rand) []byte {
	switch r.Intn(3) {
	case 0:
		var numbers []uint64
		for range r.Intn(6) {
			numbers = append(numbers, uint64(r.Intn(6)))
		}
		return payloadOf(numbers...)
	case 1:
		l := somePairs(r)
		b, err := run.Make(l)
		if err == api.OK {
			return b
		}
		return runOf(l...)
	}
	b := make([]byte, r.Intn(5))
	for k := range b {
		b[k] = byte(r.Intn(4))
	}
	return b
}

// P18.1: Open of journals and run files of any bytes, by the model, and cut at each of its raw writes; Adds behind it.
func TestOpenAnyBytes(t *testing.T) {
	right := 0
	for seed := range int64(6000) {
		r := rand.New(rand.NewSource(seed))
		d := disk.New()
		for range r.Intn(4) {
			put(t, d, fileOf(key, 0), recordOf(someBytes(r)...))
		}
		if r.Intn(4) > 0 {
			numbers := []uint64{}
			for _, n := range r.Perm(5)[:r.Intn(5)] {
				numbers = append(numbers, uint64(n+1))
			}
			put(t, d, fileOf(key, 0), says(numbers...))
		}
		if r.Intn(3) == 0 {
			put(t, d, fileOf(key, 0), someBytes(r))
		}
		for _, n := range r.Perm(6) {
			l := list(pair(api.Id(41+n+6*r.Intn(2)), 0), pair(api.Id(61+r.Intn(60)), 1))
			switch r.Intn(8) {
			case 0:
				put(t, d, fileOf(key, n+1), someBytes(r))
			case 1:
			default:
				put(t, d, fileOf(key, n+1), runOf(l...))
			}
		}
		if wantOpenAsModel(t, d, r) {
			right++
		}
		if t.Failed() {
			t.Fatalf("seed %d", seed)
		}
	}
	if right < 1000 || right > 5000 {
		t.Errorf("%d memos", right)
	}
}

// wantOpenAsModel wants Open to do as the model does, and tells whether that is a memo.
func wantOpenAsModel(t *testing.T, d *disk.Disk, r *rand.Rand) bool {
	t.Helper()
	plain := d.Copy()
	asked, err := openModel(plain)
	if err != api.OK {
		some := d.Copy()
		wantNoMemo(t, "any bytes", some, key, err)
		wantDisk(t, some, plain)
		return false
	}
	wantOpenCut(t, d)
	some := d.Copy()
	addAll(t, some, asked, someAdds(r, 6))
	wantDisk(t, some, plain)
	return true
}

// P18.4: by whatever Adds pairs come, in whatever parts and order, each is told the same; to add what is there writes nothing.
func TestPartsAndOrder(t *testing.T) {
	for seed := range int64(60) {
		r := rand.New(rand.NewSource(seed))
		all := many(1, 50)
		d := disk.New()
		m := open(t, d, key)
		order := r.Perm(len(all))
		for len(order) > 0 {
			n := 1 + r.Intn(min(9, len(order)))
			var l []api.Pair
			for _, k := range order[:n] {
				l = append(l, all[k])
			}
			for range r.Intn(4) {
				p := all[r.Intn(len(all))]
				if !slices.Contains(l, p) {
					l = append(l, p)
				}
			}
			add(t, m, l...)
			order = order[n:]
			if r.Intn(4) == 0 {
				m = open(t, d, key)
			}
		}
		writes := d.Writes()
		wantPairs(t, m, all...)
		wantPairs(t, open(t, d, key), all...)
		add(t, m, all...)
		add(t, m, all[20:30]...)
		wantWrites(t, d, writes)
	}
}
