package refs_test

import (
	"slices"
	"strconv"
	"strings"
	"testing"

	"espalier/api"
	"espalier/disk"
	"espalier/name"
)

// P8.2: wrong changes, alone and among others, and nothing is written or set: on a cut disk, too.
func TestSetWrong(t *testing.T) {
	d := disk.New()
	r := open(t, d)
	set(t, r, ref("a", 1), ref("b/c", 2))
	before := d.Writes()
	d.Cut(0)
	for _, c := range []struct {
		change api.Ref
		asked  api.Errno
	}{
		{ref("", 1), api.ErrArg},
		{ref("", 0), api.ErrArg},
		{ref("/", 1), api.ErrName},
		{ref("/", 0), api.ErrName},
		{ref("/x", 1), api.ErrName},
		{ref("x//y", 1), api.ErrName},
		{ref(".", 1), api.ErrName},
		{ref("x\xff", 1), api.ErrName},
		{ref("x\n", 1), api.ErrName},
		{ref(strings.Repeat("x", 33), 1), api.ErrLong},
		{ref(strings.Repeat("x/", 16)+"x", 1), api.ErrLong},
		{ref(strings.Repeat("x/", 16)+"x", 0), api.ErrLong},
		{ref(strings.Repeat("/", 201), 1), api.ErrLong},
		{ref("x", 0), api.ErrNone},
		{ref("b", 0), api.ErrNone},
		{ref("b/c/d", 0), api.ErrNone},
		{ref("n", 5), api.ErrThere},
		{ref("n", 6), api.ErrThere},
		{ref("n", 0), api.ErrThere},
	} {
		what := strconv.Quote(c.change.Name)
		if c.asked != api.ErrThere {
			if err := name.Path(c.change.Name).Err; err != api.OK && err != c.asked {
				t.Errorf("Path(%s): %d", what, err)
			}
			wantSet(t, what, r, c.asked, c.change)
		}
		wantSet(t, what+" behind others", r, c.asked, ref("n", 5), ref("a", 0), c.change)
		wantSet(t, what+" ahead of others", r, c.asked, ref("n", 5), c.change, ref("a", 7), ref("", 1), ref("/", 1))
	}
	wantWrites(t, d, before)
	d.Mend()
	wantRefs(t, r, ref("a", 1), ref("b/c", 2))
	set(t, r, ref("n", 5)) // none of these was cut
}

// P8.2: the first wrong change is told, whatever is wrong with later ones; of one the first thing.
func TestSetOrder(t *testing.T) {
	r := open(t, disk.New())
	set(t, r, ref("a", 1))
	wrong := []struct {
		changes []api.Ref
		asked   api.Errno
	}{
		{[]api.Ref{ref("x/", 1)}, api.ErrName},
		{[]api.Ref{ref("", 1)}, api.ErrArg},
		{[]api.Ref{ref("p", 1), ref("p", 1)}, api.ErrThere},
		{[]api.Ref{ref("q", 0)}, api.ErrNone},
		{[]api.Ref{ref(strings.Repeat("x", 33), 1)}, api.ErrLong},
	}
	for _, one := range wrong {
		for _, other := range wrong {
			wantSet(t, "two wrong ones", r, one.asked, slices.Concat(one.changes, other.changes)...)
			wantSet(t, "two wrong ones, behind 70", r, one.asked, slices.Concat(many("m", 70, 1), one.changes, other.changes)...)
		}
	}
	wantSet(t, "a away twice", r, api.ErrThere, ref("a", 0), ref("a", 0))
	wantSet(t, "a as it is, and away", r, api.ErrThere, ref("a", 1), ref("a", 0))
	wantSet(t, "nowhere ahead of set", r, api.ErrNone, ref("b", 0), ref("b", 1))
	wantRefs(t, r, ref("a", 1))
}

// P8.2: one record of a Set, its changes in their order, without those that say what is so already.
func TestSetRecords(t *testing.T) {
	d := disk.New()
	r := open(t, d)
	set(t, r, ref("z", 1), ref("a", 2), ref("m", 3))
	file := [][]byte{row(ref("z", 1), ref("a", 2), ref("m", 3))}
	wantFile(t, d, file...)
	set(t, r, ref("m", 3), ref("z", 4), ref("a", 2), ref("b", 5))
	file = append(file, row(ref("z", 4), ref("b", 5)))
	wantFile(t, d, file...)
	set(t, r, ref("z", 4), ref("m", 0), ref("a", 3), ref("b", 5))
	file = append(file, row(ref("m", 0), ref("a", 3)))
	wantFile(t, d, file...)
	set(t, r, ref("m", 3))
	file = append(file, row(ref("m", 3)))
	wantFile(t, d, file...)
	l := []api.Ref{ref("a", 3), ref("b", 5), ref("m", 3), ref("z", 4)}
	wantRefs(t, r, l...)
	wantRefs(t, open(t, d), l...)
	if names := d.Names(); !slices.Equal(names, []string{"refs"}) {
		t.Errorf("files %q", names)
	}
}

// P8.2, P8.4: what is so already, and what All tells, is set by no raw write: on a cut disk, behind a cut Set and an Open, too.
func TestSetAgain(t *testing.T) {
	d := disk.New()
	r := open(t, d)
	set(t, r)
	wantWrites(t, d, 0)
	if len(d.Names()) != 0 {
		t.Errorf("files %q", d.Names())
	}
	l := []api.Ref{ref("a", 1), ref("a/b", 2), ref("c", 1)}
	set(t, r, l...)
	before := d.Writes()
	again := func() {
		t.Helper()
		set(t, r)
		set(t, r, told(r)...)
		set(t, r, r.Under("a")...)
		set(t, r, ref("c", 1), ref("a", 1))
		wantWrites(t, d, before)
		wantRefs(t, r, l...)
	}
	again()
	d.Cut(0)
	again()
	wantSet(t, "a new one, cut", r, api.ErrCut, ref("n", 1))
	again()
	r = open(t, d)
	again()
	d.Mend()
	again()
}

// P8.2: MaxRefs refs, and one more: what is taken away makes room, wherever it stands; ErrLong is told ahead of a cut.
func TestSetMany(t *testing.T) {
	d := disk.New()
	r := open(t, d)
	wantSet(t, "65", r, api.ErrLong, many("a", 65, 1)...)
	wantWrites(t, d, 0)
	full := many("a", 64, 1)
	set(t, r, full...)
	wantRefs(t, r, full...)
	before := d.Writes()
	for range 2 {
		wantSet(t, "one more", r, api.ErrLong, ref("b", 1))
		wantSet(t, "two more, one away", r, api.ErrLong, ref("b", 1), ref("a1000", 0), ref("c", 1))
		wantSet(t, "one more, others as they are", r, api.ErrLong, append(many("a", 64, 1), ref("b", 1))...)
		wantSet(t, "one more, others changed", r, api.ErrLong, append(many("a", 64, 2), ref("b", 1))...)
		wantSet(t, "one more, one wrong", r, api.ErrNone, ref("b", 1), ref("c", 0))
		set(t, r, full...)
		d.Cut(0)
	}
	d.Mend()
	wantWrites(t, d, before)
	wantRefs(t, r, full...)
	set(t, r, ref("b", 1), ref("a1000", 0))
	set(t, r, ref("a1001", 0), ref("c", 1))
	set(t, r, ref("b", 7))
	l := append(slices.Clone(full[2:]), ref("b", 7), ref("c", 1))
	wantRefs(t, r, l...)
	wantSet(t, "one more", r, api.ErrLong, ref("a1000", 1))

	other := many("d", 64, 5)
	away := slices.Clone(l)
	for k := range away {
		away[k].Id = 0
	}
	set(t, r, slices.Concat(other, away)...)
	wantRefs(t, r, other...)
	wantRefs(t, open(t, d), other...)
	for _, one := range other {
		set(t, r, ref(one.Name, 0))
	}
	wantRefs(t, r)
	wantRefs(t, open(t, d))
}

// P8.2: names at the limits of paths, as many as may be, in one record.
func TestSetLongNames(t *testing.T) {
	d := disk.New()
	r := open(t, d)
	var l []api.Ref
	for _, one := range many("", 64, 9) {
		long := one.Name + strings.Repeat("x", 28) + strings.Repeat("/"+strings.Repeat("x", 32), 5) + "/yy"
		if len(long) != 200 {
			t.Fatalf("%d bytes", len(long))
		}
		l = append(l, ref(long, 1<<63))
	}
	set(t, r, l...)
	wantRefs(t, r, l...)
	wantRefs(t, open(t, d), l...)
	wantFile(t, d, row(l...))
}

// P8.2: disk's errors; behind those that are no cut refs go on.
func TestSetDiskErrors(t *testing.T) {
	d := disk.New()
	for k := range api.MaxFiles {
		if err := d.Append(strconv.Itoa(k), nil); err != api.OK {
			t.Fatal(err)
		}
	}
	r := open(t, d)
	wantSet(t, "one beside all files", r, api.ErrLong, ref("a", 1))
	wantRefs(t, r)
	wantNone(t, r, api.ErrNone, "a")
	if err := d.Remove("0"); err != api.OK {
		t.Fatal(err)
	}
	set(t, r, ref("a", 1))
	wantRefs(t, r, ref("a", 1))
	wantRefs(t, open(t, d), ref("a", 1))
}

// P8.2: a file has at most MaxFile bytes.
func TestSetFull(t *testing.T) {
	d := disk.New()
	r := open(t, d)
	var size int
	for id := api.Id(1); ; id++ {
		l := many("a", 64, id)
		next := size + len(row(l...))
		if next > api.MaxFile {
			before := d.Writes()
			wantSet(t, "too many bytes", r, api.ErrLong, l...)
			wantWrites(t, d, before)
			wantRefs(t, r, many("a", 64, id-1)...)
			break
		}
		set(t, r, l...)
		size = next
	}
	last := told(r)
	wantRefs(t, open(t, d), last...)
	set(t, r, ref(last[0].Name, 1))
	last[0].Id = 1
	wantRefs(t, r, last...)
	wantRefs(t, open(t, d), last...)
}

// R3: what is handed in is neither changed nor kept, and neither is what is answered.
func TestSharesNothing(t *testing.T) {
	d := disk.New()
	r := open(t, d)
	room := []api.Ref{ref("b", 2), ref("a", 1), ref("room", 3)}
	for range 2 {
		set(t, r, room[:2]...)
		if !slices.Equal(room, []api.Ref{ref("b", 2), ref("a", 1), ref("room", 3)}) {
			t.Errorf("changed: %v", room)
		}
	}
	for k := range room {
		room[k] = ref("spoiled", 9)
	}
	for range 2 {
		l := r.Under("")
		l = l[:cap(l)]
		for k := range l {
			l[k] = ref("spoiled", 9)
		}
	}
	wantRefs(t, r, ref("a", 1), ref("b", 2))
	wantRefs(t, open(t, d), ref("a", 1), ref("b", 2))
	wantFile(t, d, row(ref("b", 2), ref("a", 1)))
}
