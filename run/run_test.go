package run_test

import (
	"bytes"
	"encoding/binary"
	"hash/fnv"
	"math"
	"slices"
	"testing"

	"espalier/api"
	"espalier/run"
)

func pair(from, to api.Id) api.Pair     { return api.Pair{From: from, To: to} }
func list(pairs ...api.Pair) []api.Pair { return pairs }
func ids(l ...api.Id) []api.Id          { return l }

// sealed is bytes with their hash behind them, by another reckoning than the package's.
func sealed(b []byte) []byte {
	hash := fnv.New64a()
	hash.Write(b)
	return binary.BigEndian.AppendUint64(slices.Clone(b), hash.Sum64())
}

// wide is pairs as they stand, right or not.
func wide(l ...api.Pair) []byte {
	var b []byte
	for _, p := range l {
		b = binary.BigEndian.AppendUint64(b, uint64(p.From))
		b = binary.BigEndian.AppendUint64(b, uint64(p.To))
	}
	return b
}

// bytesOf is the bytes that the chapter gives to pairs, in the order in which they are told, right or not.
func bytesOf(l ...api.Pair) []byte {
	return sealed(append(binary.AppendUvarint(nil, uint64(len(l))), wide(l...)...))
}

// many is n pairs that rise from 1 on, every second number; their Tos take turns.
func many(n int) []api.Pair {
	l := make([]api.Pair, n)
	for k := range l {
		l[k] = pair(api.Id(2*k+1), api.Id(k%3))
	}
	return l
}

// made is Make of pairs that may be a run.
func made(t *testing.T, l ...api.Pair) []byte {
	t.Helper()
	b, err := run.Make(l)
	if err != api.OK {
		t.Fatalf("Make(%.200v): %d", l, err)
	}
	return b
}

func wantBytes(t *testing.T, call string, asked []byte) func([]byte, api.Errno) {
	t.Helper()
	return func(b []byte, err api.Errno) {
		t.Helper()
		if err != api.OK || !bytes.Equal(b, asked) {
			t.Errorf("%s: %.200x, %d, not %.200x", call, b, err, asked)
		}
	}
}

func wantNoBytes(t *testing.T, call string, asked api.Errno) func([]byte, api.Errno) {
	t.Helper()
	return func(b []byte, err api.Errno) {
		t.Helper()
		if err != asked || len(b) != 0 {
			t.Errorf("%s: %.200x, %d, not %d", call, b, err, asked)
		}
	}
}

func wantFind(t *testing.T, b []byte, from, asked api.Id, askedErr api.Errno) {
	t.Helper()
	if to, err := run.Find(b, from); to != asked || err != askedErr {
		t.Errorf("Find(%.200x, %d): %d %d, not %d %d", b, from, to, err, asked, askedErr)
	}
}

func wantSources(t *testing.T, b []byte, to api.Id, asked ...api.Id) {
	t.Helper()
	if froms := run.Sources(b, to); !slices.Equal(froms, asked) {
		t.Errorf("Sources(%.200x, %d): %v, not %v", b, to, froms, asked)
	}
}

// wantRun wants bytes to be those of a run of just these pairs.
func wantRun(t *testing.T, b []byte, asked ...api.Pair) {
	t.Helper()
	if n, err := run.Check(b); n != len(asked) || err != api.OK {
		t.Errorf("Check(%.200x): %d %d, not %d", b, n, err, len(asked))
	}
	if l := slices.Collect(run.Each(b)); !slices.Equal(l, asked) {
		t.Errorf("Each(%.200x): %.200v, not %.200v", b, l, asked)
	}
}

// wantBroken wants bytes to be no run's, by each call.
func wantBroken(t *testing.T, what string, b []byte) {
	t.Helper()
	if n, err := run.Check(b); n != 0 || err != api.ErrBroken {
		t.Errorf("%s: Check(%.200x): %d %d", what, b, n, err)
	}
	for _, id := range ids(0, 1, 3, 7, 9) {
		wantFind(t, b, id, 0, api.ErrBroken)
		wantSources(t, b, id)
	}
	for p := range run.Each(b) {
		t.Errorf("%s: Each(%.200x): %v", what, b, p)
	}
	wantNoBytes(t, what, api.ErrBroken)(run.Merge(b))
}

// The rows of the chapter's section 'Examples'.
func TestExamples(t *testing.T) {
	none := []byte{0, 0xaf, 0x63, 0xbd, 0x4c, 0x86, 0x01, 0xb7, 0xdf}
	wantBytes(t, "Make of none", none)(run.Make(nil))
	wantBytes(t, "Make of none", none)(run.Make(list()))
	wantRun(t, none)
	r := made(t, pair(7, 0), pair(3, 9))
	if !bytes.Equal(r, bytesOf(pair(3, 9), pair(7, 0))) {
		t.Errorf("r: % x", r)
	}
	wantRun(t, r, pair(3, 9), pair(7, 0))
	wantFind(t, r, 7, 0, api.OK)
	wantFind(t, r, 5, 0, api.ErrNone)
	wantSources(t, r, 9, 3)
	wantSources(t, r, 0, 7)
	wantNoBytes(t, "a From twice", api.ErrThere)(run.Make(list(pair(3, 1), pair(3, 1))))
	wantNoBytes(t, "a From 0", api.ErrArg)(run.Make(list(pair(0, 1))))
	wantBytes(t, "Merge", bytesOf(pair(3, 9), pair(5, 5), pair(7, 0)))(run.Merge(r, made(t, pair(3, 4), pair(5, 5))))
	wantBytes(t, "Merge of none", none)(run.Merge())
	wantBroken(t, "no bytes", nil)
	wantBroken(t, "no bytes", []byte{})
	wantBroken(t, "without its last byte", r[:len(r)-1])
	wantBroken(t, "one more", append(slices.Clone(r), 0))
}

// P17.1: the bytes, whatever the order in which the pairs are handed in.
func TestMake(t *testing.T) {
	const top = math.MaxUint64
	for _, c := range []struct{ in, asked []api.Pair }{
		{list(pair(1, 0)), list(pair(1, 0))},
		{list(pair(1, 1), pair(2, 1)), list(pair(1, 1), pair(2, 1))},
		{list(pair(2, 1), pair(1, 2)), list(pair(1, 2), pair(2, 1))},
		{list(pair(top, top), pair(1, top), pair(top-1, 0)), list(pair(1, top), pair(top-1, 0), pair(top, top))},
		// Ids are never below 0, and are no texts.
		{list(pair(1<<63, 1), pair(1<<63-1, 2)), list(pair(1<<63-1, 2), pair(1<<63, 1))},
		{list(pair(256, 1), pair(255, 2), pair(10, 3), pair(9, 4)), list(pair(9, 4), pair(10, 3), pair(255, 2), pair(256, 1))},
	} {
		wantBytes(t, "Make", bytesOf(c.asked...))(run.Make(c.in))
		wantRun(t, made(t, c.in...), c.asked...)
	}
	for _, n := range []int{127, 128, 129, 1000, api.MaxRun - 1, api.MaxRun} {
		l := many(n)
		asked := bytesOf(l...)
		wantBytes(t, "many that rise", asked)(run.Make(l))
		slices.Reverse(l)
		wantBytes(t, "many that fall", asked)(run.Make(l))
		slices.Reverse(l)
		wantRun(t, asked, l...)
	}
}

// P17.1: each error, and which goes ahead of which.
func TestMakeErrors(t *testing.T) {
	for _, l := range [][]api.Pair{
		list(pair(0, 0)), list(pair(1, 1), pair(0, 2), pair(3, 3)), list(pair(3, 3), pair(1, 1), pair(0, 2)),
		list(pair(0, 1), pair(0, 1)), list(pair(3, 1), pair(3, 2), pair(0, 1)), list(pair(0, 1), pair(3, 1), pair(3, 1)),
	} {
		wantNoBytes(t, "a From 0", api.ErrArg)(run.Make(l))
	}
	for _, l := range [][]api.Pair{
		list(pair(3, 1), pair(3, 2)), list(pair(3, 1), pair(4, 1), pair(3, 1)), list(pair(9, 0), pair(5, 1), pair(7, 1), pair(9, 0)),
		append(many(api.MaxRun-1), pair(1, 0)),
	} {
		wantNoBytes(t, "a From twice", api.ErrThere)(run.Make(l))
	}
	long := many(api.MaxRun + 1)
	wantNoBytes(t, "too many", api.ErrLong)(run.Make(long))
	long[5].From = 0
	wantNoBytes(t, "too many, and a From 0", api.ErrLong)(run.Make(long))
	long[5].From = long[6].From
	wantNoBytes(t, "too many, and a From twice", api.ErrLong)(run.Make(long))
	wantNoBytes(t, "too many of one From", api.ErrLong)(run.Make(make([]api.Pair, api.MaxRun+1)))
	wantNoBytes(t, "all of the From 0", api.ErrArg)(run.Make(make([]api.Pair, api.MaxRun)))
}

// R3: what is handed in stays, the room behind it too, and what is answered is new.
func TestMakeMemory(t *testing.T) {
	room := list(pair(7, 0), pair(3, 9), pair(5, 5), pair(2, 2))
	for n := range len(room) + 1 {
		made(t, room[:n]...)
	}
	if !slices.Equal(room, list(pair(7, 0), pair(3, 9), pair(5, 5), pair(2, 2))) {
		t.Errorf("what was handed in is %v", room)
	}
	one, other := made(t, room...), made(t, room...)
	scribble(one)
	wantBytes(t, "once more", bytesOf(pair(2, 2), pair(3, 9), pair(5, 5), pair(7, 0)))(other, api.OK)
	none := made(t)
	scribble(none)
	wantBytes(t, "none once more", bytesOf())(run.Make(nil))
}

// scribble writes over bytes, and over the room behind them.
func scribble(b []byte) {
	b = b[:cap(b)]
	for k := range b {
		b[k] ^= 0xa5
	}
}

// P17.3: each pair is found, and nothing around it.
func TestFind(t *testing.T) {
	for _, n := range []int{0, 1, 2, 3, 4, 5, 31, 200} {
		l := many(n)
		b := made(t, l...)
		for _, p := range l {
			wantFind(t, b, p.From, p.To, api.OK)
			wantFind(t, b, p.From+1, 0, api.ErrNone)
		}
		wantFind(t, b, 0, 0, api.ErrNone)
		wantFind(t, b, math.MaxUint64, 0, api.ErrNone)
	}
	b := made(t, pair(math.MaxUint64, 4), pair(1<<63, 5), pair(1, math.MaxUint64))
	wantFind(t, b, math.MaxUint64, 4, api.OK)
	wantFind(t, b, 1<<63, 5, api.OK)
	wantFind(t, b, 1, math.MaxUint64, api.OK)
	wantFind(t, b, 1<<63-1, 0, api.ErrNone)
	full := made(t, many(api.MaxRun)...)
	for _, k := range []int{0, 1, 2, api.MaxRun / 2, api.MaxRun - 2, api.MaxRun - 1} {
		wantFind(t, full, api.Id(2*k+1), api.Id(k%3), api.OK)
		wantFind(t, full, api.Id(2*k+2), 0, api.ErrNone)
	}
}

// P17.3: the Froms of one To, of all, and of none.
func TestSources(t *testing.T) {
	b := made(t, pair(9, 1), pair(8, 0), pair(7, 1), pair(2, 2), pair(1, 1), pair(1<<63, 1))
	wantSources(t, b, 1, 1, 7, 9, 1<<63)
	wantSources(t, b, 0, 8)
	wantSources(t, b, 2, 2)
	wantSources(t, b, 9)
	wantSources(t, b, math.MaxUint64)
	wantSources(t, made(t), 0)
	full := made(t, many(api.MaxRun)...)
	if n := len(run.Sources(full, 0)) + len(run.Sources(full, 1)) + len(run.Sources(full, 2)); n != api.MaxRun {
		t.Errorf("Sources of all Tos: %d", n)
	}
}

// P17.3, R6: left early at each place, and gone through again.
func TestEachLeft(t *testing.T) {
	l := many(5)
	each := run.Each(made(t, l...))
	for leave := range len(l) + 1 {
		var told []api.Pair
		for p := range each {
			if len(told) == leave {
				break
			}
			told = append(told, p)
		}
		if !slices.Equal(told, l[:leave]) {
			t.Errorf("left behind %d: %v", leave, told)
		}
	}
	if told := slices.Collect(each); !slices.Equal(told, l) {
		t.Errorf("again: %v", told)
	}
	for range each {
		if told := slices.Collect(each); !slices.Equal(told, l) {
			t.Errorf("one within the other: %v", told)
		}
	}
}

// R3: bytes that are handed in are neither changed nor kept.
func TestBytesStay(t *testing.T) {
	l := list(pair(3, 9), pair(7, 0))
	b, other := made(t, l...), made(t, pair(3, 4), pair(5, 5))
	was, otherWas := slices.Clone(b), slices.Clone(other)
	each := run.Each(b)
	wantRun(t, b, l...)
	wantFind(t, b, 3, 9, api.OK)
	wantSources(t, b, 0, 7)
	both, err := run.Merge(b, other)
	if err != api.OK || !bytes.Equal(b, was) || !bytes.Equal(other, otherWas) {
		t.Errorf("% x, % x, %d", b, other, err)
	}
	same, _ := run.Merge(b)
	scribble(b)
	if told := slices.Collect(each); !slices.Equal(told, l) {
		t.Errorf("Each of what was handed in: %v", told)
	}
	wantRun(t, both, pair(3, 9), pair(5, 5), pair(7, 0))
	wantRun(t, same, l...)
	late := run.Each(b)
	copy(b, was)
	for p := range late {
		t.Errorf("Each of what was broken: %v", p)
	}
	var told []api.Pair
	for p := range run.Each(b) {
		scribble(b)
		told = append(told, p)
	}
	if !slices.Equal(told, l) {
		t.Errorf("Each of what is changed on the way: %v", told)
	}
}
