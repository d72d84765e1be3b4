package octet_test

import (
	"bytes"
	"math"
	"strings"
	"testing"

	"espalier/api"
	"espalier/octet"
)

// kinds of reads, each told by whether its answer is zero.
func reads() map[string]func(*octet.Reader) bool {
	return map[string]func(*octet.Reader) bool{
		"Byte":     func(r *octet.Reader) bool { return r.Byte() == 0 },
		"Uint":     func(r *octet.Reader) bool { return r.Uint() == 0 },
		"Word":     func(r *octet.Reader) bool { return r.Word() == 0 },
		"Text(9)":  func(r *octet.Reader) bool { return r.Text(9) == "" },
		"Text(-1)": func(r *octet.Reader) bool { return r.Text(-1) == "" },
		"Raw(1)":   func(r *octet.Reader) bool { return len(r.Raw(1)) == 0 },
		"Raw(-1)":  func(r *octet.Reader) bool { return len(r.Raw(-1)) == 0 },
	}
}

func expect(t *testing.T, call string, r *octet.Reader, left int, err api.Errno) {
	t.Helper()
	if r.Left() != left || r.Err() != err {
		t.Errorf("%q: %d left, error %d; not %d, %d", call, r.Left(), r.Err(), left, err)
	}
}

// P1.3, P1.4: the row of the examples that goes through a Reader.
func TestReaderExample(t *testing.T) {
	r := octet.Read([]byte{7, 0xac, 2, 1})
	expect(t, "at first", r, 4, api.OK)
	if x := r.Byte(); x != 7 {
		t.Errorf("Byte: %d", x)
	}
	if x := r.Uint(); x != 300 {
		t.Errorf("Uint: %d", x)
	}
	expect(t, "behind Uint", r, 1, api.OK)
	if err := r.End(); err != api.ErrMore {
		t.Errorf("End: %d", err)
	}
	if x := r.Byte(); x != 1 {
		t.Errorf("Byte: %d", x)
	}
	if err := r.End(); err != api.OK {
		t.Errorf("End of all: %d", err)
	}
	if x := r.Byte(); x != 0 {
		t.Errorf("Byte at the end: %d", x)
	}
	if err := r.End(); err != api.ErrShort {
		t.Errorf("End behind an error: %d", err)
	}
}

// P1.3: Byte tells every byte, and ErrShort behind them.
func TestByte(t *testing.T) {
	all := make([]byte, 256)
	for i := range all {
		all[i] = byte(i)
	}
	r := octet.Read(all)
	for i := range all {
		if x := r.Byte(); x != byte(i) {
			t.Errorf("Byte %d: %d", i, x)
		}
		expect(t, "Byte", r, 255-i, api.OK)
	}
	if x := r.Byte(); x != 0 {
		t.Errorf("Byte at the end: %d", x)
	}
	expect(t, "Byte at the end", r, 0, api.ErrShort)
}

// P1.3: Uint, its edges and what it refuses; behind a refusal nothing is read.
func TestUint(t *testing.T) {
	full := strings.Repeat("\xff", 9)
	low := strings.Repeat("\x80", 9)
	for _, c := range []struct {
		bytes string
		x     uint64
		left  int
		err   api.Errno
	}{
		{"", 0, 0, api.ErrShort},
		{"\x00", 0, 0, api.OK},
		{"\x00\x00", 0, 1, api.OK},
		{"\x7f\x80", 127, 1, api.OK},
		{"\x80", 0, 1, api.ErrShort},
		{"\x80\x00", 0, 2, api.ErrBroken},
		{"\x80\x01", 128, 0, api.OK},
		{"\x80\x80\x01\x05", 16384, 1, api.OK},
		{"\xff\x80\x00\x01", 0, 4, api.ErrBroken},
		{full[:8] + "\x7f", 1<<63 - 1, 0, api.OK},
		{full[:8] + "\x00", 0, 9, api.ErrBroken},
		{full, 0, 9, api.ErrShort},
		{full + "\x01", math.MaxUint64, 0, api.OK},
		{full + "\x01\x01", math.MaxUint64, 1, api.OK},
		{low + "\x01", 1 << 63, 0, api.OK},
		{low + "\x00", 0, 10, api.ErrBroken},
		{full + "\x02", 0, 10, api.ErrBroken},
		{full + "\x80", 0, 10, api.ErrBroken},
		{low + "\x81", 0, 10, api.ErrBroken},
		{low + "\x80\x01", 0, 11, api.ErrBroken},
		{full + full, 0, 18, api.ErrBroken},
	} {
		r := octet.Read([]byte(c.bytes))
		if x := r.Uint(); x != c.x {
			t.Errorf("Uint of % x: %d, not %d", c.bytes, x, c.x)
		}
		expect(t, "Uint of "+c.bytes, r, c.left, c.err)
	}
}

// P1.5: a number has one short form, so whatever Uint takes is what PutUint writes.
func TestOneShortForm(t *testing.T) {
	check := func(row []byte) {
		r := octet.Read(row)
		x := r.Uint()
		if r.Err() != api.OK {
			return
		}
		if took := row[:len(row)-r.Left()]; !bytes.Equal(octet.PutUint(nil, x), took) {
			t.Errorf("Uint of % x: %d, of which the form is % x", took, x, octet.PutUint(nil, x))
		}
	}
	for i := range 1 << 16 {
		check([]byte{byte(i), byte(i >> 8)})
		check([]byte{byte(i) | 0x80, byte(i>>8) | 0x80, byte(i)})
	}
	for i := range 1 << 16 {
		row := bytes.Repeat([]byte{byte(i) | 0x80}, 9)
		check(append(row, byte(i>>8)))
	}
}

// P1.3: Word takes eight bytes, the highest first.
func TestWord(t *testing.T) {
	row := []byte{1, 2, 3, 4, 5, 6, 7, 0x88, 9}
	r := octet.Read(row)
	if x := r.Word(); x != 0x0102030405060788 {
		t.Errorf("Word: %x", x)
	}
	expect(t, "Word", r, 1, api.OK)
	for n := range 8 {
		r := octet.Read(row[:n])
		if x := r.Word(); x != 0 {
			t.Errorf("Word of %d bytes: %x", n, x)
		}
		expect(t, "Word of too few", r, n, api.ErrShort)
	}
}

// P1.3: Text, its reasons in their order, and nothing read behind one of them.
func TestText(t *testing.T) {
	long := strings.Repeat("z", 200)
	for _, c := range []struct {
		bytes string
		most  int
		text  string
		left  int
		err   api.Errno
	}{
		{"\x02ab", 1, "", 3, api.ErrLong},
		{"\x02ab", 2, "ab", 0, api.OK},
		{"\x02abc", math.MaxInt, "ab", 1, api.OK},
		{"\x02ab", -1, "", 3, api.ErrArg},
		{"\x02ab", math.MinInt, "", 3, api.ErrArg},
		{"\x02\xff\x00", 2, "\xff\x00", 0, api.OK},
		{"\x00ab", 0, "", 2, api.OK},
		{"\x01a", 0, "", 2, api.ErrLong},
		{"\x03ab", 3, "", 3, api.ErrShort},
		{"\x03ab", 2, "", 3, api.ErrLong},
		{"", 5, "", 0, api.ErrShort},
		{"", -1, "", 0, api.ErrArg},
		{"\x80", 5, "", 1, api.ErrShort},
		{"\x80", -1, "", 1, api.ErrArg},
		{"\x80\x00", 0, "", 2, api.ErrBroken},
		{"\x80\x00", -1, "", 2, api.ErrArg},
		{"\xc8\x01" + long, 199, "", 202, api.ErrLong},
		{"\xc8\x01" + long, 200, long, 0, api.OK},
		{"\xc8\x01" + long[1:], 200, "", 201, api.ErrShort},
		{strings.Repeat("\xff", 9) + "\x01a", math.MaxInt, "", 11, api.ErrLong},
		{strings.Repeat("\xff", 8) + "\x7fa", math.MaxInt, "", 10, api.ErrShort},
	} {
		r := octet.Read([]byte(c.bytes))
		if s := r.Text(c.most); s != c.text {
			t.Errorf("Text(%d) of %q: %q", c.most, c.bytes, s)
		}
		expect(t, "Text of "+c.bytes, r, c.left, c.err)
	}
}

// P1.3: Raw.
func TestRaw(t *testing.T) {
	for _, c := range []struct {
		n    int
		raw  string
		left int
		err  api.Errno
	}{
		{0, "", 3, api.OK}, {1, "a", 2, api.OK}, {3, "abc", 0, api.OK}, {4, "", 3, api.ErrShort},
		{math.MaxInt, "", 3, api.ErrShort}, {-1, "", 3, api.ErrArg}, {math.MinInt, "", 3, api.ErrArg},
	} {
		r := octet.Read([]byte("abc"))
		if b := r.Raw(c.n); string(b) != c.raw {
			t.Errorf("Raw(%d): %q", c.n, b)
		}
		expect(t, "Raw", r, c.left, c.err)
	}
	none := octet.Read(nil)
	none.Raw(0)
	expect(t, "Raw(0) of none", none, 0, api.OK)
	none.Raw(-1)
	expect(t, "Raw(-1) of none", none, 0, api.ErrArg)
}

// P1.3: the first error stays, and no read answers or takes anything behind it.
func TestFirstErrorSticks(t *testing.T) {
	for first, err := range map[string]api.Errno{"\x80\x00": api.ErrBroken, "\x09": api.ErrShort, "\x0a": api.ErrLong} {
		for name, read := range reads() {
			r := octet.Read([]byte(first + "\x01"))
			r.Text(9)
			expect(t, "the first refusal", r, len(first)+1, err)
			for range 2 {
				if !read(r) {
					t.Errorf("%s behind an error answers something", name)
				}
				expect(t, name+" behind an error", r, len(first)+1, err)
				if r.End() != err {
					t.Errorf("End behind an error: %d", r.End())
				}
			}
		}
	}
}

// P1.4: Left, Err and End change nothing.
func TestAskingChangesNothing(t *testing.T) {
	r := octet.Read([]byte{5, 6})
	for range 3 {
		if r.Left() != 2 || r.Err() != api.OK || r.End() != api.ErrMore {
			t.Errorf("asked: %d, %d, %d", r.Left(), r.Err(), r.End())
		}
	}
	if x, y := r.Byte(), r.Byte(); x != 5 || y != 6 || r.End() != api.OK || r.Err() != api.OK {
		t.Errorf("read behind that: %d, %d, %d", x, y, r.End())
	}
	if none := octet.Read(nil); none.Left() != 0 || none.Err() != api.OK || none.End() != api.OK {
		t.Errorf("a Reader of none: %d, %d, %d", none.Left(), none.Err(), none.End())
	}
}

// P1.4: a nil Reader.
func TestNilReader(t *testing.T) {
	var r *octet.Reader
	for name, read := range reads() {
		if !read(r) {
			t.Errorf("%s of nil answers something", name)
		}
	}
	if r.Left() != 0 || r.Err() != api.ErrNil || r.End() != api.ErrNil {
		t.Errorf("nil: %d, %d, %d", r.Left(), r.Err(), r.End())
	}
}

// P1.3 with R3: a Reader reads what its bytes were when it was made, and hands out new memory.
func TestReaderKeepsItsBytes(t *testing.T) {
	row := []byte("abcd")
	r := octet.Read(row)
	copy(row, "zzzz")
	one := r.Raw(2)
	if string(one) != "ab" {
		t.Errorf("Raw: %q", one)
	}
	room := one[:cap(one)]
	for i := range room {
		room[i] = '!'
	}
	if two := r.Raw(2); string(two) != "cd" || string(row) != "zzzz" {
		t.Errorf("Raw: %q, and the bytes handed in: %q", two, row)
	}
}

// P1.5: what was written is read again, nothing is left, and each shorter beginning is told by ErrShort.
func TestWrittenIsRead(t *testing.T) {
	texts := []string{"", "a", "\x00\xff", strings.Repeat("y", 130)}
	for i, x := range edgeNumbers() {
		s := texts[i%len(texts)]
		row := octet.PutText(octet.PutWord(octet.PutUint(nil, x), ^x), s)
		readAll := func(n int) (*octet.Reader, bool) {
			r := octet.Read(row[:n])
			same := r.Uint() == x
			same = r.Word() == ^x && same
			return r, r.Text(len(s)) == s && same
		}
		if r, same := readAll(len(row)); !same || r.End() != api.OK || r.Left() != 0 {
			t.Errorf("%d and %q: read otherwise, or %d at the end", x, s, r.End())
		}
		for n := range row {
			if r, _ := readAll(n); r.Err() != api.ErrShort {
				t.Errorf("%d and %q, %d bytes of %d: error %d", x, s, n, len(row), r.Err())
			}
		}
	}
}
