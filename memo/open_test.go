package memo_test

import (
	"math"
	"slices"
	"testing"

	"espalier/api"
	"espalier/disk"
)

const key = 0xff

// diskOf is a disk whose memo of the key has that journal, and run files of these pairs, numbered from 1 on.
func diskOf(t *testing.T, journal []byte, runs ...[]api.Pair) *disk.Disk {
	t.Helper()
	d := disk.New()
	put(t, d, fileOf(key, 0), journal)
	for k, l := range runs {
		put(t, d, fileOf(key, k+1), runOf(l...))
	}
	return d
}

// five is five run files' pairs, no two with one From.
func five() [][]api.Pair {
	return [][]api.Pair{list(pair(1, 1), pair(9, 1)), list(pair(5, 0)), list(), list(pair(2, 2), pair(4, 4)), list(pair(77, 0))}
}

// P18.1: of a disk that has nothing of the key; nothing is written.
func TestOpenNew(t *testing.T) {
	d := disk.New()
	for _, name := range []string{fileOf(key+1, 0), fileOf(key+1, 1), "memo", "memo-", "refs"} {
		put(t, d, name, []byte{0x80, 0}) // wrong, as a journal's bytes
	}
	names, writes := d.Names(), d.Writes()
	d.Cut(0)
	m := open(t, d, key)
	wantPairs(t, m)
	wantRuns(t, m)
	wantFiles(t, d, names...)
	wantWrites(t, d, writes)
	wantNoMemo(t, "broken", d, key+1, api.ErrBroken)
	wantNoMemo(t, "the key 0", d, 0, api.ErrArg)
}

// P18.1: the key 0 goes ahead of what stands in its files.
func TestOpenKeyZero(t *testing.T) {
	d := disk.New()
	put(t, d, fileOf(0, 0), says(1), []byte{1})
	put(t, d, fileOf(0, 2), runOf())
	d.Cut(0)
	wantNoMemo(t, "the key 0", d, 0, api.ErrArg)
	d.Mend()
	wantNoMemo(t, "the key 0", d, 0, api.ErrArg)
	wantFiles(t, d, fileOf(0, 0), fileOf(0, 2))
	wantFile(t, d, fileOf(0, 0), says(1), []byte{1})
}

// P18.1: the last record counts; run files that it does not say are removed.
func TestOpenLastRecord(t *testing.T) {
	for _, c := range []struct {
		numbers []uint64
		asked   []api.Pair
	}{
		{nil, nil},
		{[]uint64{1}, list(pair(1, 1), pair(9, 1))},
		{[]uint64{3}, nil},
		{[]uint64{2, 1}, list(pair(1, 1), pair(5, 0), pair(9, 1))},
		{[]uint64{1, 2}, list(pair(1, 1), pair(5, 0), pair(9, 1))},
		{[]uint64{5, 2, 4, 1}, list(pair(1, 1), pair(2, 2), pair(4, 4), pair(5, 0), pair(9, 1), pair(77, 0))},
		{[]uint64{3, 4, 1, 2}, list(pair(1, 1), pair(2, 2), pair(4, 4), pair(5, 0), pair(9, 1))},
	} {
		d := diskOf(t, slices.Concat(says(4, 3), says(), says(c.numbers...)), five()...)
		writes := d.Writes()
		m := open(t, d, key)
		wantPairs(t, m, c.asked...)
		names, numbers := []string{fileOf(key, 0)}, []int{}
		for n := range 6 {
			if n > 0 && slices.Contains(c.numbers, uint64(n)) {
				names = append(names, fileOf(key, n))
			}
		}
		for _, n := range c.numbers {
			numbers = append(numbers, int(n))
		}
		wantFiles(t, d, names...)
		wantRuns(t, m, numbers...)
		wantWrites(t, d, writes+5-len(c.numbers))
		wantFile(t, d, fileOf(key, 0), says(4, 3), says(), says(c.numbers...))
		d.Cut(0)
		wantPairs(t, open(t, d, key), c.asked...)
	}
}

// P18.1: without a record no run file counts, whether there is a journal or not.
func TestOpenWithoutRecord(t *testing.T) {
	none, empty, part := disk.New(), diskOf(t, nil), diskOf(t, says(1)[:4])
	put(t, none, fileOf(key, 1), runOf(pair(1, 1)))
	put(t, empty, fileOf(key, 1), runOf(pair(1, 1)))
	put(t, part, fileOf(key, 1), runOf(pair(1, 1)))
	wantPairs(t, open(t, none, key))
	wantFiles(t, none)
	for _, d := range []*disk.Disk{empty, part} {
		wantPairs(t, open(t, d, key))
		wantFiles(t, d, fileOf(key, 0))
		wantFile(t, d, fileOf(key, 0))
	}
}

// P18.1: a last record that is not as said.
func TestOpenRecordBroken(t *testing.T) {
	good := payloadOf(2, 1)
	long := payloadOf(300, 1)
	wrong := [][]byte{
		{}, payloadOf(0), payloadOf(1, 0), payloadOf(0, 1), payloadOf(1, 1), payloadOf(1, 2, 1), payloadOf(2, 1, 1), payloadOf(1, 2, 3, 1),
		payloadOf(1, 2, 3, 4, 5), payloadOf(1, 2, 3, 4, 5, 6), payloadOf(1<<31 + 1), payloadOf(1, 1<<32+2), payloadOf(1 << 32), payloadOf(1<<63 + 1),
		payloadOf(math.MaxUint64), payloadOf(1<<31+1, 1), good[:2], good[:1], append(slices.Clone(good), 0), append(slices.Clone(good), 3),
		{0, 0}, {0, 1}, {1}, {1, 1, 2}, {3, 2, 1}, {1, 2, 1}, {5, 1, 2, 3, 4}, {0x82, 0, 2, 1}, {2, 0x82, 0, 1}, {2, 2, 0x81, 0}, {0x80, 0}, {0x80}, {2, 2, 0x81},
		{0xff, 0xff, 0xff, 0xff, 0xff, 0xff, 0xff, 0xff, 0xff, 1, 2, 1}, {0xff, 0xff, 0xff, 0xff, 0xff, 0xff, 0xff, 0xff, 0xff, 2, 2, 1},
		{0x82, 0x80, 0x80, 0x80, 0x10, 2, 1}, long[:2], append(slices.Clone(good), good...), make([]byte, 100), slices.Repeat([]byte{1}, api.MaxRecord),
	}
	for _, payload := range wrong {
		for _, ahead := range [][]byte{nil, says(2, 1), slices.Concat(says(), recordOf(payload...))} {
			d := diskOf(t, slices.Concat(ahead, recordOf(payload...)), five()...)
			writes := d.Writes()
			wantNoMemo(t, "a wrong record", d, key, api.ErrBroken)
			wantWrites(t, d, writes)
			d.Cut(0)
			wantNoMemo(t, "a wrong record, cut", d, key, api.ErrBroken)
		}
		// Ahead of another one it says nothing.
		d := diskOf(t, slices.Concat(recordOf(payload...), says(2, 1)), five()[:2]...)
		m := open(t, d, key)
		wantPairs(t, m, pair(1, 1), pair(5, 0), pair(9, 1))
		wantRuns(t, m, 2, 1)
		add(t, m, pair(3, 3))
		wantRuns(t, m, 3, 2, 1)
	}
}

// P18.1: the greatest number that a record may say.
func TestOpenGreatestNumber(t *testing.T) {
	d := diskOf(t, says(1<<31, 1<<31-1))
	put(t, d, fileOf(key, 1<<31), runOf(pair(3, 1)))
	put(t, d, fileOf(key, 1<<31-1), runOf(pair(4, 1)))
	put(t, d, fileOf(key, 1<<31+1), runOf(pair(5, 1)))
	put(t, d, fileOf(key, 9999999999), runOf(pair(6, 1)))
	m := open(t, d, key)
	wantPairs(t, m, pair(3, 1), pair(4, 1))
	wantRuns(t, m, 1<<31, 1<<31-1)
	wantFiles(t, d, fileOf(key, 0), fileOf(key, 1<<31-1), fileOf(key, 1<<31))
}

// P18.1: a file of one of the numbers that is not there, or is no run's bytes; two that have a pair of one From.
func TestOpenRunsBroken(t *testing.T) {
	right := runOf(pair(5, 0), pair(6, 1))
	turned := slices.Clone(right)
	turned[3]++
	for _, b := range [][]byte{
		{}, right[:len(right)-1], right[1:], append(slices.Clone(right), 0), turned, runOf(pair(0, 1)), runOf(pair(5, 1), pair(5, 1)), runOf(pair(6, 1), pair(5, 1)),
		runOf(pair(1, 1)), runOf(pair(9, 1), pair(10, 1)), runOf(pair(1, 2)), runOf(pair(3, 3), pair(9, 0)), []byte("no run"), sealed([]byte{1}),
	} {
		for _, numbers := range [][]uint64{{1, 2}, {2, 1}, {3, 2, 1}, {1, 3, 2}} {
			d := diskOf(t, says(numbers...), list(pair(1, 1), pair(9, 1)))
			put(t, d, fileOf(key, 3), runOf())
			put(t, d, fileOf(key, 4), runOf())
			put(t, d, fileOf(key, 2), b)
			writes := d.Writes()
			wantNoMemo(t, "a wrong run file", d, key, api.ErrBroken)
			wantWrites(t, d, writes)
			d.Cut(0)
			wantNoMemo(t, "a wrong run file, cut", d, key, api.ErrBroken)
		}
	}
	for _, numbers := range [][]uint64{{6}, {6, 1}, {1, 6}, {1, 2, 3, 6}, {10}, {1 << 31}} {
		d := diskOf(t, says(numbers...), five()...)
		writes := d.Writes()
		wantNoMemo(t, "a run file that is not there", d, key, api.ErrBroken)
		wantWrites(t, d, writes)
	}
	// Those that do not count may be anything.
	d := diskOf(t, says(1), five()[0])
	put(t, d, fileOf(key, 2), []byte("no run"))
	put(t, d, fileOf(key, 3), runOf(pair(9, 1)))
	wantPairs(t, open(t, d, key), pair(1, 1), pair(9, 1))
	wantFiles(t, d, fileOf(key, 0), fileOf(key, 1))
}

// P18.1: what journal.Open answers goes ahead, and what it takes away is taken away.
func TestOpenJournal(t *testing.T) {
	changed := says(1)
	changed[len(changed)-1]++
	for _, tail := range [][]byte{changed, {0x80, 0}, append(says(1), 1, 0x61, 0, 0, 0, 0, 0, 0, 0, 0)} {
		for _, ahead := range [][]byte{nil, says(1), says(9), recordOf(9)} {
			d := diskOf(t, slices.Concat(ahead, tail), five()...)
			writes := d.Writes()
			wantNoMemo(t, "a wrong tail", d, key, api.ErrBroken)
			wantWrites(t, d, writes)
		}
	}
	for _, part := range [][]byte{{0x80}, {1}, says(2, 1)[:3], says(3)[:len(says(3))-1]} {
		d := diskOf(t, slices.Concat(says(2), part), five()...)
		writes := d.Writes()
		d.Cut(0)
		wantNoMemo(t, "a part of a record, cut", d, key, api.ErrCut)
		d.Cut(1)
		wantNoMemo(t, "run files that do not count, cut", d, key, api.ErrCut)
		wantFile(t, d, fileOf(key, 0), says(2))
		d.Mend()
		wantPairs(t, open(t, d, key), pair(5, 0))
		wantWrites(t, d, writes+5)

		d = diskOf(t, slices.Concat(says(7), part), five()...)
		d.Cut(0)
		wantNoMemo(t, "a part of a record, cut, and a run file that is not there", d, key, api.ErrCut)
		d.Mend()
		wantNoMemo(t, "a run file that is not there", d, key, api.ErrBroken)
		wantFile(t, d, fileOf(key, 0), says(7))
	}
}

// P18.1: what is removed is all run files of the key that do not count, by rising number, and nothing else.
func TestOpenRemoves(t *testing.T) {
	others := []string{
		fileOf(key, 0) + "-", fileOf(key, 0) + "-0", fileOf(key, 0) + "-01", fileOf(key, 0) + "-1x", fileOf(key, 0) + "-x1", fileOf(key, 0) + "--1",
		fileOf(key, 0) + "-1-", fileOf(key, 0) + "-1-2", fileOf(key, 0) + "-1.", fileOf(key, 0) + ".1", fileOf(key, 0) + "1", fileOf(key, 0) + "-00",
		fileOf(key, 0) + "-1.5", fileOf(key, 0) + "01", fileOf(key, 0) + "-000000001",
		fileOf(key+1, 0), fileOf(key+1, 1), fileOf(0, 1), "memo", "memo-ff-1", "memo-ff", "x" + fileOf(key, 1), "-1",
	}
	numbers := ints(1, 2, 3, 9, 10, 11, 20, 100, 999, 1000, 1<<31-1, 1<<31, 1<<31+1, 9999999999)
	d := diskOf(t, says(10, 2))
	for _, name := range others {
		put(t, d, name, []byte("anything"))
	}
	for _, n := range numbers {
		put(t, d, fileOf(key, n), runOf(pair(api.Id(n), 1)))
	}
	asked := append(slices.Clone(others), fileOf(key, 0), fileOf(key, 2), fileOf(key, 10))
	var gone []string
	for _, n := range numbers {
		if n != 2 && n != 10 {
			gone = append(gone, fileOf(key, n))
		}
	}
	for cut := range gone {
		some := d.Copy()
		some.Cut(cut)
		wantNoMemo(t, "cut", some, key, api.ErrCut)
		wantWrites(t, some, cut)
		names := slices.Concat(asked, gone[cut:])
		slices.Sort(names)
		wantFiles(t, some, names...)
		some.Mend()
		wantPairs(t, open(t, some, key), pair(2, 1), pair(10, 1))
		wantWrites(t, some, len(gone))
		wantRuns(t, open(t, some, key), 10, 2)
		wantWrites(t, some, len(gone))
	}
	slices.Sort(asked)
	open(t, d, key)
	wantFiles(t, d, asked...)
}

// P18.1, P18.2: runs that count may have more pairs than MaxRun together; what is known may be said again, and no more is taken in.
func TestOpenMorePairsThanARun(t *testing.T) {
	d := diskOf(t, says(1, 2), many(1, api.MaxRun), many(api.MaxRun+1, 1))
	m := open(t, d, key)
	if m.Len() != api.MaxRun+1 {
		t.Errorf("Len: %d", m.Len())
	}
	writes := d.Writes()
	add(t, m, many(1, api.MaxRun)...)
	add(t, m, many(api.MaxRun+1, 1)...)
	wantAdd(t, "one more", m, api.ErrLong, pair(api.MaxRun+2, 1))
	wantWrites(t, d, writes)
	wantRuns(t, m, 1, 2)
}
