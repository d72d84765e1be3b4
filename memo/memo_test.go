package memo_test

import (
	"encoding/binary"
	"fmt"
	"hash/fnv"
	"math"
	"slices"
	"strings"
	"testing"

	"espalier/api"
	"espalier/disk"
	"espalier/memo"
)

func pair(from, to api.Id) api.Pair     { return api.Pair{From: from, To: to} }
func list(pairs ...api.Pair) []api.Pair { return pairs }
func ids(l ...api.Id) []api.Id          { return l }
func ints(l ...int) []int               { return l }

// many is so many pairs that rise from the first one on, whose Tos take turns.
func many(first api.Id, n int) []api.Pair {
	l := make([]api.Pair, n)
	for k := range l {
		l[k] = pair(first+api.Id(k), api.Id(k%3))
	}
	return l
}

// short is a list as it is told of what goes wrong.
func short[E any](l []E) string {
	if len(l) > 20 {
		return fmt.Sprint(l[:20], " .. of ", len(l))
	}
	return fmt.Sprint(l)
}

// sealed is bytes with their hash behind them, by another reckoning than the program's.
func sealed(b []byte) []byte {
	hash := fnv.New64a()
	hash.Write(b)
	return binary.BigEndian.AppendUint64(slices.Clone(b), hash.Sum64())
}

// runOf is the bytes of a run of these pairs, in the order in which they are told, right or not.
func runOf(l ...api.Pair) []byte {
	b := binary.AppendUvarint(nil, uint64(len(l)))
	for _, p := range l {
		b = binary.BigEndian.AppendUint64(b, uint64(p.From))
		b = binary.BigEndian.AppendUint64(b, uint64(p.To))
	}
	return sealed(b)
}

// payloadOf is what a record has that says these numbers.
func payloadOf(numbers ...uint64) []byte {
	b := binary.AppendUvarint(nil, uint64(len(numbers)))
	for _, n := range numbers {
		b = binary.AppendUvarint(b, n)
	}
	return b
}

// recordOf is a journal's record with that payload.
func recordOf(payload ...byte) []byte {
	hash := fnv.New64a()
	hash.Write(payload)
	b := append(binary.AppendUvarint(nil, uint64(len(payload))), payload...)
	return binary.BigEndian.AppendUint64(b, hash.Sum64())
}

// says is the record that says these numbers.
func says(numbers ...uint64) []byte { return recordOf(payloadOf(numbers...)...) }

// fileOf is the name of a run file; of the journal, if the number is 0.
func fileOf(key api.Id, number int) string {
	name := fmt.Sprintf("memo-%016x", uint64(key))
	if number == 0 {
		return name
	}
	return fmt.Sprintf("%s-%d", name, number)
}

// put lays a file of these parts on a disk.
func put(t *testing.T, d *disk.Disk, name string, parts ...[]byte) {
	t.Helper()
	if err := d.Append(name, slices.Concat(parts...)); err != api.OK {
		t.Fatalf("Append(%s): %d", name, err)
	}
}

func open(t *testing.T, d *disk.Disk, key api.Id) *memo.Memo {
	t.Helper()
	m, err := memo.Open(d, key)
	if err != api.OK || m == nil {
		t.Fatalf("Open of %d: %v %d", key, m, err)
	}
	return m
}

// wantNoMemo wants Open to answer an error, and nothing beside it.
func wantNoMemo(t *testing.T, what string, d *disk.Disk, key api.Id, asked api.Errno) {
	t.Helper()
	if m, err := memo.Open(d, key); m != nil || err != asked {
		t.Errorf("%s: Open of %d: %v %d, not %d", what, key, m, err, asked)
	}
}

func add(t *testing.T, m *memo.Memo, l ...api.Pair) {
	t.Helper()
	if err := m.Add(l...); err != api.OK {
		t.Fatalf("Add(%s): %d", short(l), err)
	}
}

func wantAdd(t *testing.T, what string, m *memo.Memo, asked api.Errno, l ...api.Pair) {
	t.Helper()
	if err := m.Add(l...); err != asked {
		t.Errorf("%s: Add(%s): %d, not %d", what, short(l), err, asked)
	}
}

func wantRuns(t *testing.T, m *memo.Memo, asked ...int) {
	t.Helper()
	if runs := m.Runs(); !slices.Equal(runs, asked) {
		t.Errorf("Runs: %v, not %v", runs, asked)
	}
}

func wantStandin(t *testing.T, m *memo.Memo, c, asked api.Id, askedKnown bool) {
	t.Helper()
	if to, known := m.Standin(c); to != asked || known != askedKnown {
		t.Errorf("Standin(%d): %d %t, not %d %t", c, to, known, asked, askedKnown)
	}
}

func wantSources(t *testing.T, m *memo.Memo, to api.Id, asked ...api.Id) {
	t.Helper()
	if froms := m.Sources(to); !slices.Equal(froms, asked) {
		t.Errorf("Sources(%d): %s, not %s", to, short(froms), short(asked))
	}
}

// wantPairs wants a memo to have just these pairs, which are handed in by rising From, by all calls.
func wantPairs(t *testing.T, m *memo.Memo, asked ...api.Pair) {
	t.Helper()
	if n := m.Len(); n != len(asked) {
		t.Errorf("Len: %d, not %d", n, len(asked))
	}
	if l := slices.Collect(m.Each()); !slices.Equal(l, asked) {
		t.Errorf("Each: %s, not %s", short(l), short(asked))
	}
	sources := map[api.Id][]api.Id{}
	for k, p := range asked {
		wantStandin(t, m, p.From, p.To, true)
		if k+1 == len(asked) || asked[k+1].From != p.From+1 {
			wantStandin(t, m, p.From+1, 0, false)
		}
		sources[p.To] = append(sources[p.To], p.From)
	}
	for to, froms := range sources {
		wantSources(t, m, to, froms...)
		if _, there := sources[to+1]; !there {
			wantSources(t, m, to+1)
		}
	}
	wantStandin(t, m, 0, 0, false)
}

// wantFiles wants a disk to have just the files of these names, which rise.
func wantFiles(t *testing.T, d *disk.Disk, asked ...string) {
	t.Helper()
	if names := d.Names(); !slices.Equal(names, asked) {
		t.Errorf("files: %v, not %v", names, asked)
	}
}

func wantFile(t *testing.T, d *disk.Disk, name string, parts ...[]byte) {
	t.Helper()
	b, err := d.Read(name)
	if asked := slices.Concat(parts...); err != api.OK || !slices.Equal(b, asked) {
		t.Errorf("%s: %.200x %d, not %.200x", name, b, err, asked)
	}
}

func wantWrites(t *testing.T, d *disk.Disk, asked int) {
	t.Helper()
	if writes := d.Writes(); writes != asked {
		t.Errorf("%d raw writes, not %d", writes, asked)
	}
}

func wantKeys(t *testing.T, d *disk.Disk, asked ...api.Id) {
	t.Helper()
	if keys := memo.Keys(d); !slices.Equal(keys, asked) {
		t.Errorf("Keys: %d, not %d", keys, asked)
	}
}

// The rows of the chapter's section 'Examples'.
func TestExamples(t *testing.T) {
	d := disk.New()
	m := open(t, d, 255)
	add(t, m, pair(7, 0), pair(3, 9))
	wantStandin(t, m, 7, 0, true)
	wantStandin(t, m, 5, 0, false)
	wantSources(t, m, 9, 3)
	wantRuns(t, m, 1)
	wantFiles(t, d, "memo-00000000000000ff", "memo-00000000000000ff-1")
	writes := d.Writes()
	add(t, m, pair(3, 9))
	wantAdd(t, "another To", m, api.ErrThere, pair(3, 8))
	wantAdd(t, "a From 0", m, api.ErrArg, pair(0, 1))
	wantAdd(t, "a From twice", m, api.ErrThere, pair(4, 1), pair(4, 1))
	wantWrites(t, d, writes)
	for from := range api.Id(3) {
		add(t, m, pair(11+from, 1))
	}
	wantRuns(t, m, 4, 3, 2, 1)
	add(t, m, pair(14, 1))
	wantRuns(t, m, 5)
	wantFiles(t, d, "memo-00000000000000ff", "memo-00000000000000ff-5")
	wantKeys(t, d, 255)
	wantNoMemo(t, "the key 0", d, 0, api.ErrArg)
	wantPairs(t, m, pair(3, 9), pair(7, 0), pair(11, 1), pair(12, 1), pair(13, 1), pair(14, 1))
}

// P18.3: what a memo tells; ids of all sizes; a To 0 is a pair's, too.
func TestTells(t *testing.T) {
	const top = math.MaxUint64
	m := open(t, disk.New(), 1)
	wantPairs(t, m)
	wantRuns(t, m)
	wantSources(t, m, 0)
	l := list(pair(1, 0), pair(2, top), pair(1<<32, 0), pair(1<<63, 2), pair(top-1, top), pair(top, 2))
	add(t, m, l[3], l[0], l[5])
	wantPairs(t, m, l[0], l[3], l[5])
	add(t, m, l[4], l[1], l[2])
	wantPairs(t, m, l...)
	wantSources(t, m, 0, 1, 1<<32)
	wantSources(t, m, 2, 1<<63, top)
	wantSources(t, m, top, 2, top-1)
	wantSources(t, m, 1)
	wantRuns(t, m, 2, 1)
}

// P18.3 with R6: going through pairs is left early, done again, and tells what there was at its beginning.
func TestEachAgain(t *testing.T) {
	m := open(t, disk.New(), 1)
	each := m.Each()
	wantEach := func(asked ...api.Pair) {
		t.Helper()
		for range 2 {
			if l := slices.Collect(each); !slices.Equal(l, asked) {
				t.Errorf("Each: %v, not %v", l, asked)
			}
		}
	}
	wantEach()
	add(t, m, pair(3, 1), pair(5, 1))
	wantEach(pair(3, 1), pair(5, 1))
	var l []api.Pair
	for p := range each {
		l = append(l, p)
		add(t, m, pair(p.From+1, 2), pair(p.From-1, 2), pair(p.From+100, 2))
	}
	if !slices.Equal(l, list(pair(3, 1), pair(5, 1))) {
		t.Errorf("Each, while more were added: %v", l)
	}
	wantEach(pair(2, 2), pair(3, 1), pair(4, 2), pair(5, 1), pair(6, 2), pair(103, 2), pair(105, 2))
	for p := range each {
		if p.From != 2 {
			t.Errorf("the first one: %v", p)
		}
		break
	}
	wantEach(pair(2, 2), pair(3, 1), pair(4, 2), pair(5, 1), pair(6, 2), pair(103, 2), pair(105, 2))
}

// P18.3 with R3: what is answered is new memory, the room behind its end, too.
func TestAnswersAreNew(t *testing.T) {
	m := open(t, disk.New(), 1)
	add(t, m, pair(3, 1))
	add(t, m, pair(5, 1))
	runs, froms := m.Runs(), m.Sources(1)
	for k := range runs[:cap(runs)] {
		runs[:cap(runs)][k] = 77
	}
	for k := range froms[:cap(froms)] {
		froms[:cap(froms)][k] = 77
	}
	wantRuns(t, m, 2, 1)
	wantPairs(t, m, pair(3, 1), pair(5, 1))
	add(t, m, pair(6, 1))
	wantRuns(t, m, 3, 2, 1)
}

// R4: of nil ones.
func TestNil(t *testing.T) {
	var m *memo.Memo
	wantAdd(t, "nil", m, api.ErrNil)
	wantAdd(t, "nil", m, api.ErrNil, pair(0, 1), pair(3, 1), pair(3, 1))
	wantAdd(t, "nil", m, api.ErrNil, many(1, api.MaxRun+1)...)
	wantStandin(t, m, 3, 0, false)
	wantPairs(t, m)
	wantSources(t, m, 0)
	wantRuns(t, m)
	wantNoMemo(t, "no disk", nil, 1, api.ErrNil)
	wantNoMemo(t, "no disk, no key", nil, 0, api.ErrNil)
	wantKeys(t, nil)
}

// P18.1: Keys tells those whose journal is there, whatever stands in it, by rising keys.
func TestKeys(t *testing.T) {
	d := disk.New()
	wantKeys(t, d)
	for _, key := range ids(1<<63, 255, math.MaxUint64, 1, 0, 0x0123456789abcdef, 256) {
		put(t, d, fileOf(key, 0), []byte("what is no record"))
	}
	put(t, d, fileOf(77, 0)) // no bytes
	put(t, d, fileOf(5, 1), runOf(pair(1, 1)))
	for _, name := range []string{
		"memo", "memo-", "memo-a", "memo-000000000000009", "memo-00000000000000009", "memo-000000000000009-", "memo-000000000000009-1",
		"memo-000000000000000a-", "memo-000000000000000b-0", "memo-000000000000000c.", "memo-000000000000000d-x", "memo-000000000000000e0",
		"memo-000000000000000g", "memo--000000000000001", "memo.0000000000000001", "nemo-0000000000000001", "rules-0000000000000009", "refs",
		"omemo-000000000000000a", "memo-000000000000000-", "0000000000000001", "-0000000000000001", "emo-0000000000000001", "memo-00000000000000.1",
		"memo-000000000000000e-01", "memo-000000000000000e-00", "memo-000000000000000f-2147483649", "memo-0000000000000010-9999999999",
	} {
		put(t, d, name)
	}
	writes := d.Writes()
	wantKeys(t, d, 1, 77, 255, 256, 0x0123456789abcdef, 1<<63, math.MaxUint64)
	wantWrites(t, d, writes)
	keys := memo.Keys(d)
	for k := range keys[:cap(keys)] {
		keys[:cap(keys)][k] = 3
	}
	wantKeys(t, d, 1, 77, 255, 256, 0x0123456789abcdef, 1<<63, math.MaxUint64)
	d.Cut(0)
	wantKeys(t, d, 1, 77, 255, 256, 0x0123456789abcdef, 1<<63, math.MaxUint64)
}

// P18.1: memos of several keys on one disk, each by itself.
func TestKeysApart(t *testing.T) {
	d := disk.New()
	keys := ids(1, 0x10, 0x11, 1<<60, math.MaxUint64)
	var memos []*memo.Memo
	for _, key := range keys {
		memos = append(memos, open(t, d, key))
	}
	wantFiles(t, d)
	for n := range 9 {
		for k, key := range keys {
			if n == 0 {
				wantKeys(t, d, keys[:k]...)
			}
			add(t, memos[k], pair(api.Id(n+1), key), pair(api.Id(100+n), 7))
		}
	}
	wantKeys(t, d, keys...)
	for k, key := range keys {
		if !slices.ContainsFunc(d.Names(), func(name string) bool { return strings.HasPrefix(name, fileOf(key, 0)+"-") }) {
			t.Errorf("no run file of %d", key)
		}
		again := open(t, d, key)
		wantPairs(t, again, slices.Collect(memos[k].Each())...)
		wantRuns(t, again, 9)
		wantStandin(t, again, 3, key, true)
	}
}
