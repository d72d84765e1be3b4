package disk_test

import (
	"math"
	"strconv"
	"strings"
	"testing"

	"espalier/api"
	"espalier/disk"
)

// full is a disk with as many files as may be, each of one byte.
func full(t *testing.T) *disk.Disk {
	t.Helper()
	d := disk.New()
	for k := range api.MaxFiles {
		ok(t, "Append", d.Append("f"+strconv.Itoa(k), []byte{1}))
	}
	return d
}

// P2.3: a raw write has at most Raw bytes, the last one what is left; each call begins a new one.
func TestAppendWrites(t *testing.T) {
	for _, row := range []struct{ bytes, writes int }{
		{0, 1}, {1, 1}, {31, 1}, {32, 1}, {33, 2}, {63, 2}, {64, 2}, {65, 3}, {1000, 32},
	} {
		d := disk.New()
		ok(t, "Append", d.Append("a", some(row.bytes)))
		wantWrites(t, d, row.writes)
		wantFile(t, d, "a", some(row.bytes))
		wantNames(t, d, "a")

		ok(t, "Append of none to a file that is there", d.Append("a", []byte{}))
		wantWrites(t, d, row.writes)
		ok(t, "Append of one byte", d.Append("a", []byte{9}))
		wantWrites(t, d, row.writes+1)
		wantFile(t, d, "a", append(some(row.bytes), 9))
	}
}

// P2.3: cut behind each of its raw writes an Append leaves these, and no file of none.
func TestAppendCut(t *testing.T) {
	for cut := range 5 {
		d := disk.New()
		ok(t, "Cut", d.Cut(cut))
		asked := api.ErrCut
		if cut >= 4 {
			asked = api.OK
		}
		want(t, "Append", d.Append("a", some(100)), asked)
		wantWrites(t, d, cut)
		if cut == 0 {
			wantNone(t, d, "a")
			wantNames(t, d)
			continue
		}
		wantFile(t, d, "a", some(100)[:min(cut*32, 100)])
	}
	d := disk.New()
	ok(t, "Cut", d.Cut(0))
	want(t, "Append of none to a file that is not there", d.Append("a", nil), api.ErrCut)
	wantNone(t, d, "a")
}

// P2.3: a file has MaxFile bytes, and not one more; what is refused is not written in part.
func TestAppendLong(t *testing.T) {
	d := disk.New()
	want(t, "one byte too many at once", d.Append("a", make([]byte, api.MaxFile+1)), api.ErrLong)
	wantNone(t, d, "a")
	wantWrites(t, d, 0)

	ok(t, "MaxFile bytes", d.Append("a", make([]byte, api.MaxFile)))
	wantWrites(t, d, api.MaxFile/api.Raw)
	want(t, "one byte more", d.Append("a", []byte{1}), api.ErrLong)
	ok(t, "none more", d.Append("a", nil))
	ok(t, "another file", d.Append("b", some(40)))
	want(t, "40 and the rest, and one", d.Append("b", make([]byte, api.MaxFile-39)), api.ErrLong)
	wantFile(t, d, "b", some(40))
	ok(t, "Truncate", d.Truncate("a", api.MaxFile-1))
	want(t, "two bytes for one", d.Append("a", []byte{1, 2}), api.ErrLong)
	ok(t, "one byte for one", d.Append("a", []byte{1}))
	if n, _ := d.Size("a"); n != api.MaxFile {
		t.Error(n)
	}
}

// P2.3: there are MaxFiles files, and not one more; those that are there grow on.
func TestAppendFiles(t *testing.T) {
	d := full(t)
	want(t, "a file more", d.Append("a", []byte{1}), api.ErrLong)
	want(t, "a file more, of no bytes", d.Append("a", nil), api.ErrLong)
	wantNone(t, d, "a")
	wantWrites(t, d, api.MaxFiles)
	ok(t, "one that is there", d.Append("f0", []byte{2}))
	wantFile(t, d, "f0", []byte{1, 2})
	ok(t, "Rename when full", d.Rename("f0", "a"))
	want(t, "the old name", d.Append("f0", nil), api.ErrLong)
	ok(t, "Remove", d.Remove("a"))
	ok(t, "one in its place", d.Append("f0", nil))
	want(t, "and no more", d.Append("a", nil), api.ErrLong)
	if n := len(d.Names()); n != api.MaxFiles {
		t.Error(n)
	}
}

// P2.3, R2: ErrArg is ahead of ErrLong, and that ahead of ErrCut.
func TestAppendErrors(t *testing.T) {
	d := full(t)
	ok(t, "Cut", d.Cut(0))
	want(t, "no name, when full", d.Append("A", make([]byte, api.MaxFile+1)), api.ErrArg)
	want(t, "a file more, when cut", d.Append("a", nil), api.ErrLong)
	want(t, "too long, when cut", d.Append("f1", make([]byte, api.MaxFile)), api.ErrLong)
	want(t, "cut", d.Append("f1", []byte{1}), api.ErrCut)
	wantCutting(t, d, 0, true)
}

// P2.4: a file made shorter, at all sizes that may be and may not.
func TestTruncate(t *testing.T) {
	for _, n := range []int{0, 1, 31, 32, 33, 69} {
		d := disk.New()
		ok(t, "Append", d.Append("a", some(70)))
		ok(t, "Truncate", d.Truncate("a", n))
		wantWrites(t, d, 4)
		wantFile(t, d, "a", some(70)[:n])
		ok(t, "Truncate again", d.Truncate("a", n))
		wantWrites(t, d, 4)
		ok(t, "Append behind it", d.Append("a", []byte{5, 6}))
		wantFile(t, d, "a", append(some(n), 5, 6))
	}
	d := disk.New()
	ok(t, "Append", d.Append("a", some(70)))
	ok(t, "Cut", d.Cut(1))
	for _, n := range []int{-1, 71, math.MinInt, math.MaxInt} {
		want(t, "Truncate("+strconv.Itoa(n)+")", d.Truncate("a", n), api.ErrArg)
		want(t, "Truncate of none", d.Truncate("b", n), api.ErrNone)
	}
	want(t, "Truncate of none", d.Truncate("b", 0), api.ErrNone)
	want(t, "Truncate of what is no name", d.Truncate("B", 0), api.ErrNone)
	ok(t, "Truncate to its size", d.Truncate("a", 70))
	wantWrites(t, d, 3)
	wantCutting(t, d, 1, true)
	ok(t, "Truncate", d.Truncate("a", 69))
	wantCutting(t, d, 0, true)
	want(t, "Truncate, cut", d.Truncate("a", 1), api.ErrCut)
	want(t, "Truncate above, cut", d.Truncate("a", 70), api.ErrArg)
	wantFile(t, d, "a", some(69))
}

// P2.4: a file by another name, in the place of the one that was there.
func TestRename(t *testing.T) {
	d := disk.New()
	ok(t, "Append", d.Append("a", some(5)))
	ok(t, "Append", d.Append("b", some(40)))
	ok(t, "Rename to a new name", d.Rename("a", "c"))
	wantWrites(t, d, 4)
	wantNames(t, d, "b", "c")
	wantFile(t, d, "c", some(5))
	wantNone(t, d, "a")
	ok(t, "Rename to one that is there", d.Rename("c", "b"))
	wantWrites(t, d, 5)
	wantNames(t, d, "b")
	wantFile(t, d, "b", some(5))
	ok(t, "Append to what is no more there", d.Append("c", []byte{9}))
	wantFile(t, d, "b", some(5))
	wantFile(t, d, "c", []byte{9})
	ok(t, "Rename of one without bytes", d.Append("e", nil))
	ok(t, "Rename of one without bytes", d.Rename("e", "b"))
	wantFile(t, d, "b", nil)
	ok(t, "Rename to the longest name", d.Rename("c", strings.Repeat("z", 32)))
}

// P2.4, R2: the errors of Rename, in their order.
func TestRenameErrors(t *testing.T) {
	d := disk.New()
	ok(t, "Append", d.Append("a", some(5)))
	for _, to := range []string{"", "A", "a/b", "ä", strings.Repeat("a", 33)} {
		want(t, "Rename to "+to, d.Rename("a", to), api.ErrArg)
		want(t, "Rename of none to "+to, d.Rename("b", to), api.ErrArg)
		want(t, "Rename of itself, no name", d.Rename(to, to), api.ErrArg)
		want(t, "Rename of what is no name", d.Rename(to, "b"), api.ErrNone)
	}
	want(t, "Rename of none", d.Rename("b", "a"), api.ErrNone)
	want(t, "Rename of none to itself", d.Rename("b", "b"), api.ErrNone)
	ok(t, "Rename to itself", d.Rename("a", "a"))
	wantWrites(t, d, 1)
	wantNames(t, d, "a")
	ok(t, "Cut", d.Cut(0))
	want(t, "Rename, cut", d.Rename("a", "b"), api.ErrCut)
	want(t, "Rename to no name, cut", d.Rename("a", ""), api.ErrArg)
	want(t, "Rename of none, cut", d.Rename("b", "c"), api.ErrNone)
	ok(t, "Rename to itself, cut", d.Rename("a", "a"))
	wantNames(t, d, "a")
	wantFile(t, d, "a", some(5))
}

// P2.4: a file taken away, once; it may be made anew.
func TestRemove(t *testing.T) {
	d := disk.New()
	ok(t, "Append", d.Append("a", some(5)))
	ok(t, "Append", d.Append("b", nil))
	ok(t, "Remove", d.Remove("a"))
	wantWrites(t, d, 3)
	wantNames(t, d, "b")
	wantNone(t, d, "a")
	for _, name := range []string{"a", "", "A", "c"} {
		want(t, "Remove of none", d.Remove(name), api.ErrNone)
	}
	wantWrites(t, d, 3)
	ok(t, "Append anew", d.Append("a", []byte{3}))
	wantFile(t, d, "a", []byte{3})
	ok(t, "Cut", d.Cut(0))
	want(t, "Remove, cut", d.Remove("a"), api.ErrCut)
	want(t, "Remove of none, cut", d.Remove("c"), api.ErrNone)
	wantFile(t, d, "a", []byte{3})
	ok(t, "Mend", d.Mend())
	ok(t, "Remove of one without bytes", d.Remove("b"))
	wantNames(t, d, "a")
}
