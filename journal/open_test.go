package journal_test

import (
	"bytes"
	"math/rand"
	"slices"
	"testing"

	"espalier/api"
	"espalier/disk"
	"espalier/journal"
)

// heads are rows of records that stand ahead of a tail.
func heads() [][][]byte {
	return [][][]byte{{}, {some(1)}, {nil}, {some(200), nil, some(40)}}
}

// bytesOf is n times that byte.
func bytesOf(c byte, n int) []byte {
	return bytes.Repeat([]byte{c}, n)
}

// P3.1: a file that is not there is read as one without bytes, and is not made; one of a name that may not be, too.
func TestOpenOfNone(t *testing.T) {
	d := disk.New()
	for _, file := range []string{"f", "", "F", "a/b", "a name that is longer than a file's may be"} {
		j, err := journal.Open(d, file)
		if err != api.OK {
			t.Fatalf("Open of %q: error %d", file, err)
		}
		wantRecords(t, j)
	}
	d.Cut(0)
	wantRecords(t, open(t, d))
	wantWrites(t, d, 0)
	if names := d.Names(); len(names) != 0 {
		t.Errorf("files were made: %q", names)
	}
	if j, err := journal.Open(nil, ""); j != nil || err != api.ErrNil {
		t.Errorf("Open of no disk: %v, error %d", j, err)
	}
}

// P3.1: of files that end with a record nothing is written, cut or not.
func TestOpenOfWhole(t *testing.T) {
	for _, head := range heads() {
		d := diskWith(t, fileOf(head...))
		before := d.Writes()
		wantRecords(t, open(t, d), head...)
		d.Cut(0)
		wantRecords(t, open(t, d), head...)
		wantWrites(t, d, before)
		wantFile(t, d, fileOf(head...))
	}
}

// beginnings are tails that a cut may have left.
func beginnings() [][]byte {
	l := [][]byte{
		{0x00}, {0x01}, {0x7f}, {0x01, 0x61},
		fileOf(nil)[:8],
		{0x01, 0, 0, 0, 0, 0, 0, 0, 0}, // a byte and seven, of which no hash comes
		bytesOf(0xff, 9),
		{0x80, 0x81, 0xff, 0x80},
		{0x80, 0x01}, {0x80, 0x80, 0x01},
		{0x80, 0x80, 0x10}, // MaxRecord
		append([]byte{0x80, 0x80, 0x10}, make([]byte, api.MaxRecord)...),
		append([]byte{0x80, 0x80, 0x10}, make([]byte, api.MaxRecord+7)...),
		append([]byte{0xff, 0xff, 0x0f}, make([]byte, api.MaxRecord+6)...),
	}
	for n := 1; n <= 9; n++ {
		l = append(l, bytesOf(0x80, n))
	}
	return l
}

// P3.1: a beginning of a record is taken away by one raw write; ErrCut, and no Journal, if that is not done.
func TestOpenOfBeginnings(t *testing.T) {
	for _, head := range heads() {
		for _, tail := range beginnings() {
			file := append(fileOf(head...), tail...)
			d := diskWith(t, file)
			before := d.Writes()

			d.Cut(0)
			if j, err := journal.Open(d, "f"); j != nil || err != api.ErrCut {
				t.Errorf("a tail of %d bytes, cut: %v, error %d", len(tail), j, err)
			}
			wantFile(t, d, file)
			wantWrites(t, d, before)

			d.Mend()
			wantRecords(t, open(t, d), head...)
			wantFile(t, d, fileOf(head...))
			wantWrites(t, d, before+1)
		}
	}
}

// wrongs are tails that are no beginning of a record.
func wrongs() [][]byte {
	l := [][]byte{
		{0x80, 0x00}, {0xff, 0x80, 0x00}, {0x80, 0x00, 0x61},
		bytesOf(0x80, 10), bytesOf(0xff, 10), bytesOf(0x80, 40),
		append(bytesOf(0x80, 9), 0x00),
		append(bytesOf(0x80, 9), 0x01),
		append(bytesOf(0xff, 9), 0x01),
		append(bytesOf(0xff, 9), 0x02),
		append(bytesOf(0x80, 8), 0x01),
		{0x81, 0x80, 0x10}, // MaxRecord and 1
		{0x81, 0x80, 0x10, 0x61},
		{0xff, 0xff, 0x7f},
		recordBytes(some(api.MaxRecord + 1)),
		make([]byte, 9),
	}
	for _, payload := range [][]byte{nil, some(1), some(130)} {
		for k := range recordBytes(payload) {
			b := recordBytes(payload)
			b[k] ^= 0x01
			if k == 0 && len(payload) > 0 {
				continue // another number: it may be a beginning
			}
			l = append(l, append(b, fileOf(some(2))...))
		}
		b := recordBytes(payload)
		b[len(b)-1]++
		l = append(l, b)
	}
	return l
}

// P3.1: of a file whose tail is wrong there is no Journal, and it is left as it is, cut or not.
func TestOpenOfWrong(t *testing.T) {
	for _, head := range heads() {
		for _, tail := range wrongs() {
			file := append(fileOf(head...), tail...)
			d := diskWith(t, file)
			before := d.Writes()
			for range 2 {
				if j, err := journal.Open(d, "f"); j != nil || err != api.ErrBroken {
					t.Errorf("% .12x behind %d records: %v, error %d", tail, len(head), j, err)
				}
				d.Cut(0)
			}
			wantFile(t, d, file)
			wantWrites(t, d, before)
		}
	}
}

// tailOf is what the chapter says of tails, written down once more: whether t is nothing, a beginning, or wrong.
func tailOf(t []byte) api.Errno {
	n := 0
	for n < len(t) && t[n] >= 0x80 {
		n++
	}
	if n == len(t) {
		if n <= 9 {
			return api.OK
		}
		return api.ErrBroken
	}
	if n > 3 || n > 0 && t[n] == 0 {
		return api.ErrBroken // no short form of a number up to MaxRecord has more than three bytes
	}
	number := 0
	for k := n; k >= 0; k-- {
		number = number*128 + int(t[k]&0x7f)
	}
	if number > api.MaxRecord || len(t)-n-1 >= number+8 {
		return api.ErrBroken
	}
	return api.OK
}

// P3.1: every row of a few bytes, and many longer ones, against the chapter's words.
func TestOpenOfAnything(t *testing.T) {
	check := func(tail []byte) {
		d := diskWith(t, tail)
		j, err := journal.Open(d, "f")
		asked := tailOf(tail)
		if err != asked || (j == nil) != (asked != api.OK) {
			t.Fatalf("% x: error %d, not %d", tail, err, asked)
		}
		if asked == api.OK {
			wantRecords(t, j)
			wantFile(t, d, nil)
		}
	}
	alphabet := []byte{0x00, 0x01, 0x02, 0x10, 0x11, 0x7f, 0x80, 0x81, 0xff}
	rows := [][]byte{nil}
	for range 4 {
		var longer [][]byte
		for _, row := range rows {
			for _, c := range alphabet {
				longer = append(longer, append(slices.Clone(row), c))
			}
		}
		rows = longer
		for _, row := range rows {
			check(row)
		}
	}
	r := rand.New(rand.NewSource(3))
	for range 20000 {
		row := make([]byte, r.Intn(24))
		for k := range row {
			row[k] = alphabet[r.Intn(len(alphabet))]
		}
		check(row)
	}
}

// P3.1: of each beginning of a file the records that stand in it whole are left, and no others.
func TestOpenOfEachBeginning(t *testing.T) {
	list := [][]byte{some(1), nil, some(130), some(31), some(3)}
	file := fileOf(list...)
	for n := range len(file) + 1 {
		whole := len(list)
		for len(fileOf(list[:whole]...)) > n {
			whole--
		}
		d := diskWith(t, file[:n])
		wantRecords(t, open(t, d), list[:whole]...)
		wantFile(t, d, fileOf(list[:whole]...))
	}
}
