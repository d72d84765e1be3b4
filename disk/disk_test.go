package disk_test

import (
	"bytes"
	"slices"
	"strconv"
	"strings"
	"testing"

	"espalier/api"
	"espalier/disk"
)

// some is n bytes, of which neighbours are unlike.
func some(n int) []byte {
	b := make([]byte, n)
	for k := range b {
		b[k] = byte(k*7 + k>>8 + 1)
	}
	return b
}

func ok(t *testing.T, call string, err api.Errno) {
	t.Helper()
	want(t, call, err, api.OK)
}

func want(t *testing.T, call string, err, asked api.Errno) {
	t.Helper()
	if err != asked {
		t.Errorf("%s: error %d, not %d", call, err, asked)
	}
}

func wantFile(t *testing.T, d *disk.Disk, name string, b []byte) {
	t.Helper()
	got, err := d.Read(name)
	if err != api.OK || !bytes.Equal(got, b) {
		t.Errorf("Read(%q): %d bytes, error %d; not the %d bytes", name, len(got), err, len(b))
	}
	if n, err := d.Size(name); n != len(b) || err != api.OK {
		t.Errorf("Size(%q): %d, error %d; not %d", name, n, err, len(b))
	}
}

func wantNone(t *testing.T, d *disk.Disk, name string) {
	t.Helper()
	if b, err := d.Read(name); len(b) != 0 || err != api.ErrNone {
		t.Errorf("Read(%q): %v, error %d", name, b, err)
	}
	if n, err := d.Size(name); n != 0 || err != api.ErrNone {
		t.Errorf("Size(%q): %d, error %d", name, n, err)
	}
}

func wantNames(t *testing.T, d *disk.Disk, names ...string) {
	t.Helper()
	if got := d.Names(); !slices.Equal(got, names) {
		t.Errorf("Names: %q, not %q", got, names)
	}
}

func wantWrites(t *testing.T, d *disk.Disk, n int) {
	t.Helper()
	if got := d.Writes(); got != n {
		t.Errorf("Writes: %d, not %d", got, n)
	}
}

func wantCutting(t *testing.T, d *disk.Disk, n int, cut bool) {
	t.Helper()
	if got, is := d.Cutting(); got != n || is != cut {
		t.Errorf("Cutting: %d, %t; not %d, %t", got, is, n, cut)
	}
}

// The chapter's section 'Examples', row by row.
func TestExamples(t *testing.T) {
	d := disk.New()
	ok(t, "Append 40", d.Append("a", some(40)))
	wantWrites(t, d, 2)
	wantFile(t, d, "a", some(40))
	ok(t, "Append none to a", d.Append("a", nil))
	ok(t, "Append none to b", d.Append("b", nil))
	wantWrites(t, d, 3)

	ok(t, "Cut(1)", d.Cut(1))
	want(t, "Append 70", d.Append("a", some(70)), api.ErrCut)
	wantFile(t, d, "a", append(some(40), some(70)[:32]...))
	wantWrites(t, d, 4)
	wantCutting(t, d, 0, true)

	want(t, "Remove", d.Remove("b"), api.ErrCut)
	ok(t, "Truncate to its size", d.Truncate("a", 72))
	ok(t, "Append none", d.Append("a", nil))
	wantFile(t, d, "b", nil)

	ok(t, "Mend", d.Mend())
	ok(t, "Rename", d.Rename("a", "b"))
	wantNames(t, d, "b")

	want(t, "Append to A", d.Append("A", nil), api.ErrArg)
	want(t, "Append to no name", d.Append("", nil), api.ErrArg)
	wantNone(t, d, "z")
	want(t, "Truncate(73)", d.Truncate("b", 73), api.ErrArg)
	want(t, "Cut(-1)", d.Cut(-1), api.ErrArg)
}

// P2.1: a new disk.
func TestNew(t *testing.T) {
	d := disk.New()
	wantNames(t, d)
	wantWrites(t, d, 0)
	wantCutting(t, d, 0, false)
	ok(t, "Append to one", d.Append("a", some(1)))
	wantNames(t, disk.New())
}

// P2.1: a copy has the same files, and neither sees what is done to the other.
func TestCopy(t *testing.T) {
	d := disk.New()
	ok(t, "Append", d.Append("a", some(40)))
	ok(t, "Append", d.Append("b", nil))
	ok(t, "Cut", d.Cut(0))
	c := d.Copy()
	wantNames(t, c, "a", "b")
	wantFile(t, c, "a", some(40))
	wantFile(t, c, "b", nil)
	wantWrites(t, c, 0)
	wantCutting(t, c, 0, false)
	wantWrites(t, d, 3)
	wantCutting(t, d, 0, true)

	ok(t, "Append to the copy", c.Append("a", []byte{1}))
	ok(t, "Remove of the copy's", c.Remove("b"))
	ok(t, "Append to the copy's new one", c.Append("c", nil))
	ok(t, "Cut of the copy", c.Cut(5))
	wantWrites(t, c, 3)
	wantNames(t, d, "a", "b")
	wantFile(t, d, "a", some(40))
	wantWrites(t, d, 3)
	wantCutting(t, d, 0, true)

	ok(t, "Mend", d.Mend())
	ok(t, "Append to the first", d.Append("a", []byte{2}))
	wantFile(t, c, "a", append(some(40), 1))
	wantFile(t, d, "a", append(some(40), 2))
	wantCutting(t, c, 5, true)
}

// P2.1: bytes that are put behind the end on both sides stay apart, whatever room there was.
func TestCopyShareNoRoom(t *testing.T) {
	for n := range 70 {
		d := disk.New()
		ok(t, "Append", d.Append("a", some(n)))
		c := d.Copy()
		ok(t, "Append to the first", d.Append("a", []byte{1, 2}))
		ok(t, "Append to the copy", c.Append("a", []byte{3}))
		wantFile(t, d, "a", append(some(n), 1, 2))
		wantFile(t, c, "a", append(some(n), 3))
	}
}

// P2.2: names are told rising, byte by byte; none of them twice.
func TestNames(t *testing.T) {
	d := disk.New()
	for _, name := range []string{"b", "a.b", "a", "0", "a-b", "aa", "10", ".", "-", "z", "9", "a"} {
		ok(t, "Append to "+name, d.Append(name, []byte{1}))
	}
	wantNames(t, d, "-", ".", "0", "10", "9", "a", "a-b", "a.b", "aa", "b", "z")
	names := d.Names()
	names[0] = "x"
	wantNames(t, d, "-", ".", "0", "10", "9", "a", "a-b", "a.b", "aa", "b", "z")
}

// P2.2: reading asks for no raw write, and no name is wrong to ask for.
func TestReadCut(t *testing.T) {
	d := disk.New()
	ok(t, "Append", d.Append("a", some(33)))
	ok(t, "Cut", d.Cut(0))
	wantFile(t, d, "a", some(33))
	wantNames(t, d, "a")
	for _, name := range []string{"b", "", "A", "a/b", strings.Repeat("a", 33), "\xff"} {
		wantNone(t, d, name)
	}
	wantWrites(t, d, 2)
}

// R3: what Read answers is new memory, with the room behind it.
func TestReadIsNew(t *testing.T) {
	for n := range 70 {
		d := disk.New()
		ok(t, "Append", d.Append("a", some(n)))
		b, _ := d.Read("a")
		b = append(b, 99)
		for k := range b {
			b[k] = 98
		}
		ok(t, "Append", d.Append("a", []byte{1}))
		wantFile(t, d, "a", append(some(n), 1))
	}
}

// R3: what Append is handed is neither kept nor changed, the room behind it neither.
func TestAppendKeepsNothing(t *testing.T) {
	for _, n := range []int{0, 1, 31, 32, 33, 64, 65} {
		room := some(n + 40)
		d := disk.New()
		ok(t, "Append", d.Append("a", room[:n]))
		ok(t, "Append", d.Append("a", []byte{77}))
		if !bytes.Equal(room, some(n+40)) {
			t.Errorf("%d bytes: what was handed in has changed", n)
		}
		clear(room)
		wantFile(t, d, "a", append(some(n), 77))
	}
}

// P2.3: what may be a file's name, at the edges of each of its rows, and how long.
func TestFileNames(t *testing.T) {
	for c := range 256 {
		name := string([]byte{byte(c)})
		may := api.ErrArg
		if strings.Contains("abcdefghijklmnopqrstuvwxyz0123456789-.", name) {
			may = api.OK
		}
		d := disk.New()
		for _, name := range []string{name, "a" + name, name + "a", "a" + name + "a"} {
			want(t, "Append to "+strconv.Quote(name), d.Append(name, []byte{1}), may)
		}
		if may != api.OK && (len(d.Names()) != 0 || d.Writes() != 0) {
			t.Errorf("%q: refused, and written", name)
		}
	}
	d := disk.New()
	for n, may := range map[int]api.Errno{0: api.ErrArg, 1: api.OK, 31: api.OK, 32: api.OK, 33: api.ErrArg, 64: api.ErrArg} {
		want(t, strconv.Itoa(n)+" bytes", d.Append(strings.Repeat("a", n), nil), may)
	}
	want(t, "a name of letters that are no bytes", d.Append("ä", nil), api.ErrArg)
}

// R4: of a nil disk.
func TestNil(t *testing.T) {
	var d *disk.Disk
	if d.Copy() != nil {
		t.Error("Copy: not nil")
	}
	if b, err := d.Read("a"); len(b) != 0 || err != api.ErrNil {
		t.Error("Read", b, err)
	}
	if n, err := d.Size("a"); n != 0 || err != api.ErrNil {
		t.Error("Size", n, err)
	}
	wantNames(t, d)
	want(t, "Append", d.Append("a", nil), api.ErrNil)
	want(t, "Append to no name", d.Append("", nil), api.ErrNil)
	want(t, "Truncate", d.Truncate("a", -1), api.ErrNil)
	want(t, "Rename", d.Rename("a", "b"), api.ErrNil)
	want(t, "Rename to no name", d.Rename("a", ""), api.ErrNil)
	want(t, "Remove", d.Remove("a"), api.ErrNil)
	wantWrites(t, d, 0)
	want(t, "Cut", d.Cut(1), api.ErrNil)
	want(t, "Cut(-1)", d.Cut(-1), api.ErrNil)
	wantCutting(t, d, 0, false)
	want(t, "Mend", d.Mend(), api.ErrNil)
}
