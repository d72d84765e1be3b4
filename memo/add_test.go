package memo_test

import (
	"fmt"
	"slices"
	"testing"

	"espalier/api"
	"espalier/disk"
)

// P18.2: which files there are, and what stands in them, behind each of many Adds.
func TestAddFiles(t *testing.T) {
	d := disk.New()
	m := open(t, d, key)
	var records []byte
	step := func(runs []int, files [][]api.Pair, l ...api.Pair) {
		t.Helper()
		add(t, m, l...)
		wantRuns(t, m, runs...)
		numbers := make([]uint64, len(runs))
		names := []string{fileOf(key, 0)}
		for k, n := range runs {
			numbers[k] = uint64(n)
			names = append(names, fileOf(key, n))
			wantFile(t, d, fileOf(key, n), runOf(files[k]...))
		}
		records = append(records, says(numbers...)...)
		wantFile(t, d, fileOf(key, 0), records)
		slices.Sort(names)
		wantFiles(t, d, names...)
		wantRuns(t, open(t, d, key), runs...)
	}
	one, two, three, four := list(pair(7, 0), pair(9, 2)), list(pair(3, 1)), list(pair(1, 1), pair(8, 8)), list(pair(20, 1))
	step(ints(1), [][]api.Pair{one}, pair(9, 2), pair(7, 0))
	step(ints(2, 1), [][]api.Pair{two, one}, pair(7, 0), pair(3, 1))
	step(ints(3, 2, 1), [][]api.Pair{three, two, one}, pair(8, 8), pair(1, 1), pair(3, 1), pair(9, 2))
	step(ints(4, 3, 2, 1), [][]api.Pair{four, three, two, one}, pair(20, 1))
	all := list(pair(1, 1), pair(2, 2), pair(3, 1), pair(7, 0), pair(8, 8), pair(9, 2), pair(20, 1), pair(30, 0))
	step(ints(5), [][]api.Pair{all}, pair(30, 0), pair(2, 2), pair(1, 1))
	wantPairs(t, m, all...)
	step(ints(6, 5), [][]api.Pair{list(pair(40, 4)), all}, pair(40, 4), pair(20, 1))
}

// P18.2: raw writes come in that order: the run file, the record, what is removed; one Add is cut at each of them.
func TestAddOrder(t *testing.T) {
	full := disk.New()
	m := open(t, full, key)
	for _, l := range five()[:2] {
		add(t, m, l...)
	}
	add(t, m, pair(2, 2), pair(4, 4))
	add(t, m, pair(77, 0))
	wantRuns(t, m, 4, 3, 2, 1)
	old := slices.Collect(m.Each())
	news := list(pair(3, 3), pair(100, 100))
	all := list(pair(1, 1), pair(2, 2), pair(3, 3), pair(4, 4), pair(5, 0), pair(9, 1), pair(77, 0), pair(100, 100))
	plain := full.Copy()
	journal, _ := plain.Read(fileOf(key, 0))
	put(t, plain, fileOf(key, 5), runOf(all...))
	atRecord := plain.Writes()
	put(t, plain, fileOf(key, 0), says(5))
	atRemove := plain.Writes()
	for cut := range atRemove + 4 {
		d := full.Copy()
		some := open(t, d, key)
		d.Cut(cut)
		wantAdd(t, "cut", some, api.ErrCut, news...)
		wantWrites(t, d, cut)
		d.Mend()
		told, runs := old, ints(4, 3, 2, 1)
		if cut >= atRemove {
			told, runs = all, ints(5)
		}
		wantPairs(t, some, told...)
		wantRuns(t, some, runs...)
		names := []string{fileOf(key, 0)}
		for n := 1 + max(0, cut-atRemove); n < 5; n++ {
			names = append(names, fileOf(key, n))
		}
		if cut > 0 {
			names = append(names, fileOf(key, 5))
			wantFile(t, d, fileOf(key, 5), runOf(all...)[:min(32*cut, len(runOf(all...)))])
		}
		wantFiles(t, d, names...)
		if cut <= atRecord {
			wantFile(t, d, fileOf(key, 0), journal)
		}
		// Behind an error of these this memo takes no more.
		for _, l := range [][]api.Pair{news, list(pair(0, 1)), list(pair(1, 1)), list(pair(1, 2)), nil, many(1, api.MaxRun+1)} {
			wantAdd(t, "behind a cut", some, api.ErrCut, l...)
		}
		wantWrites(t, d, cut)
		again := open(t, d, key)
		wantPairs(t, again, told...)
		wantRuns(t, again, runs...)
		add(t, again, news...)
		wantPairs(t, open(t, d, key), all...)
		wantRuns(t, open(t, d, key), 5)
	}
}

// P18.2: the order of the errors, and that nothing is written with them, and an Add behind them is as if they had not been.
func TestAddErrors(t *testing.T) {
	d := disk.New()
	m := open(t, d, key)
	add(t, m, pair(3, 9), pair(7, 0))
	writes := d.Writes()
	d.Cut(0)
	wantAdd(t, "too many", m, api.ErrLong, many(1, api.MaxRun+1)...)
	wantAdd(t, "too many, one of them 0", m, api.ErrLong, many(0, api.MaxRun+1)...)
	wantAdd(t, "too many of one From", m, api.ErrLong, slices.Repeat(list(pair(3, 1)), api.MaxRun+1)...)
	wantAdd(t, "a From 0", m, api.ErrArg, pair(0, 0))
	wantAdd(t, "a From 0, another To", m, api.ErrArg, pair(3, 1), pair(0, 1))
	wantAdd(t, "a From 0, one twice", m, api.ErrArg, pair(4, 1), pair(4, 1), pair(0, 1))
	wantAdd(t, "one twice", m, api.ErrThere, pair(4, 1), pair(4, 1))
	wantAdd(t, "one twice that is known", m, api.ErrThere, pair(3, 9), pair(3, 9))
	wantAdd(t, "another To", m, api.ErrThere, pair(3, 8))
	wantAdd(t, "another To", m, api.ErrThere, pair(7, 3))
	wantAdd(t, "another To, among others", m, api.ErrThere, pair(4, 1), pair(3, 9), pair(7, 7), pair(8, 1))
	wantAdd(t, "another To, that is 0", m, api.ErrThere, pair(1, 1), pair(3, 0))
	wantAdd(t, "none", m, api.OK)
	wantAdd(t, "known ones", m, api.OK, pair(3, 9))
	wantAdd(t, "known ones", m, api.OK, pair(7, 0), pair(3, 9))
	wantPairs(t, m, pair(3, 9), pair(7, 0))
	wantWrites(t, d, writes)
	d.Mend()
	add(t, m, pair(8, 8))
	wantPairs(t, m, pair(3, 9), pair(7, 0), pair(8, 8))
	wantRuns(t, m, 2, 1)
	wantPairs(t, open(t, d, key), pair(3, 9), pair(7, 0), pair(8, 8))
}

// P18.2: MaxRun pairs, and one more; those that are known do not count twice.
func TestAddMany(t *testing.T) {
	for _, parts := range [][]int{{api.MaxRun}, {api.MaxRun - 1, 1}, {1, api.MaxRun - 1}, {30000, 30000, 5000, 500, 36}, {1, 1, 1, 1, 1, 1, 1, 1, api.MaxRun - 8}} {
		d := disk.New()
		m := open(t, d, key)
		all := many(1, api.MaxRun)
		at := 0
		for _, n := range parts {
			add(t, m, all[at:at+n]...)
			at += n
		}
		writes := d.Writes()
		d.Cut(0)
		wantAdd(t, "one more", m, api.ErrLong, pair(api.MaxRun+1, 1))
		wantAdd(t, "one more, and known ones", m, api.ErrLong, slices.Concat(all[:3], many(api.MaxRun+1, 1))...)
		wantAdd(t, "one more, and another To", m, api.ErrThere, pair(api.MaxRun+1, 1), pair(3, 77))
		wantAdd(t, "all", m, api.OK, all...)
		d.Mend()
		wantAdd(t, "known ones", m, api.OK, all[:3]...)
		wantWrites(t, d, writes)
		if told := slices.Collect(m.Each()); !slices.Equal(told, all) {
			t.Errorf("Each: %s", short(told))
		}
		if told := slices.Collect(open(t, d, key).Each()); !slices.Equal(told, all) {
			t.Errorf("Each behind Open: %s", short(told))
		}
	}
	d := disk.New()
	m := open(t, d, key)
	add(t, m, many(1, api.MaxRun-2)...)
	wantAdd(t, "one too many", m, api.ErrLong, many(api.MaxRun-1, 3)...)
	wantAdd(t, "as many as one Add may have", m, api.ErrLong, many(api.MaxRun-1, api.MaxRun)...)
	wantRuns(t, m, 1)
	add(t, m, pair(3, 2), pair(api.MaxRun-1, 1), pair(api.MaxRun, 0))
	wantRuns(t, m, 2, 1)
	if m.Len() != api.MaxRun {
		t.Errorf("Len: %d", m.Len())
	}
}

// P18.2: the number is one more than any that a record has ever said, the last one or one ahead of it.
func TestAddNumber(t *testing.T) {
	for _, c := range []struct {
		records []byte
		asked   []int
	}{
		{nil, ints(1)},
		{says(), ints(1)},
		{says(1), ints(2, 1)},
		{says(3, 1), ints(4, 3, 1)},
		{says(1, 3), ints(4, 1, 3)},
		{slices.Concat(says(9, 12, 3), says(2, 1)), ints(13, 2, 1)},
		{slices.Concat(says(9), says(1, 2), says()), ints(10)},
		{slices.Concat(says(1000, 7), says(9), says(1)), ints(1001, 1)},
		{slices.Concat(says(1<<30), says(1)), ints(1<<30+1, 1)},
		{says(2, 4, 1, 3), ints(5)},
		{slices.Concat(says(6), says(4, 3, 2, 1)), ints(7)},
		{slices.Concat(says(1<<31-1), says(4)), ints(1<<31, 4)},
	} {
		d := diskOf(t, c.records, list(pair(1, 1)), list(pair(2, 1)), list(pair(3, 1)), list(pair(4, 1)))
		m := open(t, d, key)
		add(t, m, pair(77, 0))
		wantRuns(t, m, c.asked...)
		again := open(t, d, key)
		wantRuns(t, again, c.asked...)
		wantPairs(t, again, slices.Collect(m.Each())...)
	}
}

// P18.2 with R8, P18.4: a number above the greatest one is not written, as no Open would take it.
func TestAddNumberTooGreat(t *testing.T) {
	for _, records := range [][]byte{slices.Concat(says(1<<31), says(1)), slices.Concat(says(1<<31), says(4, 3, 2, 1))} {
		d := diskOf(t, records, list(pair(1, 1)), list(pair(2, 1)), list(pair(3, 1)), list(pair(4, 1)))
		m := open(t, d, key)
		writes := d.Writes()
		wantAdd(t, "a number too great", m, api.ErrLong, pair(77, 0))
		wantAdd(t, "a number too great, again", m, api.ErrLong, pair(77, 0))
		wantAdd(t, "known ones", m, api.OK, pair(1, 1))
		wantWrites(t, d, writes)
		wantPairs(t, open(t, d, key), slices.Collect(m.Each())...)
	}
}

// P18.2: errors of the disk that are no cut end a memo, too.
func TestAddDiskErrors(t *testing.T) {
	for _, room := range []int{0, 1} {
		d := disk.New()
		for k := range api.MaxFiles - room {
			put(t, d, fmt.Sprint(k))
		}
		m := open(t, d, key)
		wantAdd(t, "no room", m, api.ErrLong, pair(1, 1))
		wantPairs(t, m)
		wantRuns(t, m)
		for k := range 10 {
			if err := d.Remove(fmt.Sprint(k)); err != api.OK {
				t.Fatal(err)
			}
		}
		wantAdd(t, "behind that", m, api.ErrCut, pair(1, 1))
		wantAdd(t, "behind that, known ones", m, api.ErrCut)
		_, err := d.Size(fileOf(key, 1))
		if there := err == api.OK; there != (room == 1) {
			t.Errorf("the run file is there: %t", there)
		}
		again := open(t, d, key)
		wantPairs(t, again)
		add(t, again, pair(1, 1))
		wantRuns(t, again, 1)
	}
	// One that is to be removed is gone already: the pairs are there, and what comes behind it stays till the next Open.
	d := disk.New()
	m := open(t, d, key)
	for from := range api.Id(4) {
		add(t, m, pair(from+1, 1))
	}
	if err := d.Remove(fileOf(key, 2)); err != api.OK {
		t.Fatal(err)
	}
	wantAdd(t, "one is gone", m, api.ErrNone, pair(5, 1))
	wantPairs(t, m, pair(1, 1), pair(2, 1), pair(3, 1), pair(4, 1), pair(5, 1))
	wantRuns(t, m, 5)
	wantFiles(t, d, fileOf(key, 0), fileOf(key, 3), fileOf(key, 4), fileOf(key, 5))
	wantAdd(t, "behind that", m, api.ErrCut, pair(6, 1))
	wantPairs(t, open(t, d, key), pair(1, 1), pair(2, 1), pair(3, 1), pair(4, 1), pair(5, 1))
	wantFiles(t, d, fileOf(key, 0), fileOf(key, 5))
}

// P18.2: a journal that is full: the record can't be written, and no pair is the memo's.
func TestAddJournalFull(t *testing.T) {
	d := disk.New()
	for range 15 {
		put(t, d, fileOf(key, 0), recordOf(make([]byte, api.MaxRecord)...))
	}
	size, _ := d.Size(fileOf(key, 0))
	put(t, d, fileOf(key, 0), recordOf(make([]byte, api.MaxFile-size-11-len(says(1))-len(says()))...), says())
	m := open(t, d, key)
	add(t, m, pair(1, 1))
	writes := d.Writes()
	wantAdd(t, "a full journal", m, api.ErrLong, pair(2, 1))
	wantWrites(t, d, writes+1)
	wantPairs(t, m, pair(1, 1))
	wantRuns(t, m, 1)
	wantAdd(t, "behind that", m, api.ErrCut, pair(1, 1))
	wantPairs(t, open(t, d, key), pair(1, 1))
	wantFiles(t, d, fileOf(key, 0), fileOf(key, 1))
}

// P18.2, R3: a list is neither changed nor kept, nor the room behind its end.
func TestAddKeepsNothing(t *testing.T) {
	m := open(t, disk.New(), key)
	room := list(pair(9, 1), pair(3, 2), pair(5, 3), pair(1, 4), pair(2, 5))
	asked := slices.Clone(room)
	for range 3 {
		add(t, m, room[:3]...)
		if !slices.Equal(room, asked) {
			t.Errorf("what was handed in was changed: %v", room)
		}
	}
	clear(room)
	wantPairs(t, m, pair(3, 2), pair(5, 3), pair(9, 1))
}
