package journal_test

import (
	"bytes"
	"math/rand"
	"strconv"
	"testing"

	"espalier/api"
	"espalier/disk"
	"espalier/journal"
)

// P3.2: a record is put behind the file's end, by raw writes of Raw bytes.
func TestAppendWrites(t *testing.T) {
	for _, row := range []struct{ bytes, writes int }{{0, 1}, {1, 1}, {23, 1}, {24, 2}, {55, 2}, {56, 3}, {128, 5}} {
		d := disk.New()
		j := open(t, d)
		wantWrites(t, d, 0)
		ok(t, "Append", j.Append(some(row.bytes)))
		wantWrites(t, d, row.writes)
		wantFile(t, d, recordBytes(some(row.bytes)))
	}
}

// P3.2, R3: a payload is not changed and not kept, nor the room behind its end.
func TestAppendKeepsNothing(t *testing.T) {
	d := disk.New()
	j := open(t, d)
	room := some(20)
	payload := room[:10]
	ok(t, "Append", j.Append(payload))
	if !bytes.Equal(room, some(20)) {
		t.Errorf("what was handed in was changed: %v", room)
	}
	for k := range room {
		room[k] = 0xee
	}
	wantRecords(t, j, some(10))
	ok(t, "Append", j.Append(room[:3]))
	wantRecords(t, j, some(10), bytesOf(0xee, 3))
	wantFile(t, d, fileOf(some(10), bytesOf(0xee, 3)))
}

// P3.2: a payload has at most MaxRecord bytes; behind one that has more a Journal goes on.
func TestAppendLong(t *testing.T) {
	d := disk.New()
	j := open(t, d)
	ok(t, "Append of the most", j.Append(some(api.MaxRecord)))
	before := d.Writes()
	want(t, "Append of one more", j.Append(some(api.MaxRecord+1)), api.ErrLong)
	d.Cut(0)
	want(t, "Append of one more, cut", j.Append(some(api.MaxRecord+1)), api.ErrLong)
	wantWrites(t, d, before)
	d.Mend()
	wantRecords(t, j, some(api.MaxRecord))
	ok(t, "Append", j.Append(some(1)))
	wantRecords(t, j, some(api.MaxRecord), some(1))
	wantRecords(t, open(t, d), some(api.MaxRecord), some(1))
}

// P3.2: an Append that answered ErrCut is that Journal's last one, whatever becomes of the disk; what it knew it tells yet.
func TestAppendCut(t *testing.T) {
	for cut := range 3 {
		d := disk.New()
		j := open(t, d)
		ok(t, "Append", j.Append(some(5)))
		d.Cut(cut)
		want(t, "Append, cut", j.Append(some(60)), api.ErrCut)
		want(t, "Append again", j.Append(nil), api.ErrCut)
		want(t, "Append of too much", j.Append(some(api.MaxRecord+1)), api.ErrCut)
		d.Mend()
		before := d.Writes()
		want(t, "Append, mended", j.Append(some(1)), api.ErrCut)
		want(t, "Append of too much, mended", j.Append(some(api.MaxRecord+1)), api.ErrCut)
		wantWrites(t, d, before)
		wantRecords(t, j, some(5))
		wantFile(t, d, fileOf(some(5), some(60))[:14+cut*32])

		again := open(t, d)
		ok(t, "Append of another Journal", again.Append(some(1)))
		wantRecords(t, again, some(5), some(1))
		want(t, "Append of the first one", j.Append(some(1)), api.ErrCut)
	}
}

// P3.2: disk's errors but ErrCut change nothing, and a Journal goes on behind them.
func TestAppendDiskErrors(t *testing.T) {
	d := disk.New()
	wrong, err := journal.Open(d, "F")
	ok(t, "Open", err)
	want(t, "Append to what is no file's name", wrong.Append(nil), api.ErrArg)
	want(t, "Append of too much to it", wrong.Append(some(api.MaxRecord+1)), api.ErrLong)
	d.Cut(0)
	want(t, "Append to it, cut", wrong.Append(nil), api.ErrArg)
	wantRecords(t, wrong)

	d = disk.New()
	for k := range api.MaxFiles {
		ok(t, "disk.Append", d.Append(strconv.Itoa(k), nil))
	}
	j := open(t, d)
	want(t, "Append beside all files", j.Append(some(1)), api.ErrLong)
	wantRecords(t, j)
	ok(t, "disk.Remove", d.Remove("0"))
	ok(t, "Append", j.Append(some(2)))
	wantRecords(t, j, some(2))
	wantFile(t, d, fileOf(some(2)))
}

// P3.2: a file has at most MaxFile bytes.
func TestAppendFull(t *testing.T) {
	d := disk.New()
	j := open(t, d)
	var list [][]byte
	for range 15 {
		ok(t, "Append", j.Append(some(api.MaxRecord)))
		list = append(list, some(api.MaxRecord))
	}
	rest := api.MaxFile - j.Size() - 11 // three bytes of a number, eight of a hash
	want(t, "Append of one too many", j.Append(some(rest+1)), api.ErrLong)
	wantRecords(t, j, list...)
	ok(t, "Append of what is left", j.Append(some(rest)))
	list = append(list, some(rest))
	want(t, "Append to a full file", j.Append(nil), api.ErrLong)
	wantRecords(t, j, list...)
	if j.Size() != api.MaxFile {
		t.Errorf("a full file of %d bytes", j.Size())
	}
	wantRecords(t, open(t, d), list...)
}

// randomList is some payloads, short and long ones mixed.
func randomList(r *rand.Rand) [][]byte {
	list := make([][]byte, 1+r.Intn(8))
	for k := range list {
		list[k] = make([]byte, r.Intn([]int{1, 4, 40, 200}[r.Intn(4)]))
		r.Read(list[k])
	}
	return list
}

// appendAll appends as far as it is let, and tells how many were.
func appendAll(t *testing.T, j *journal.Journal, list [][]byte) int {
	t.Helper()
	for k, payload := range list {
		switch err := j.Append(payload); err {
		case api.OK:
		case api.ErrCut:
			return k
		default:
			t.Fatalf("Append: error %d", err)
		}
	}
	return len(list)
}

// P3.4, P3.5: cut at each raw write, mended, opened, gone on, and cut once more.
func TestCutEverywhere(t *testing.T) {
	for seed := range int64(25) {
		r := rand.New(rand.NewSource(seed))
		list, more := randomList(r), randomList(r)
		whole := disk.New()
		appendAll(t, open(t, whole), list)
		for cut := range whole.Writes() + 1 {
			d := disk.New()
			j := open(t, d)
			d.Cut(cut)
			n := appendAll(t, j, list)
			if (n == len(list)) != (cut == whole.Writes()) {
				t.Fatalf("seed %d, cut behind %d: %d records of %d", seed, cut, n, len(list))
			}
			wantRecords(t, j, list[:n]...)
			d.Mend()
			goOn(t, d, list[:n], more, r.Intn(20))
		}
	}
}

// goOn opens a mended disk that has that list, and appends more to it, cut behind so many raw writes.
func goOn(t *testing.T, d *disk.Disk, list, more [][]byte, cut int) {
	t.Helper()
	j := open(t, d)
	wantRecords(t, j, list...)
	wantAgain(t, d, list)
	d.Cut(cut)
	n := appendAll(t, j, more)
	d.Mend()
	all := append(append([][]byte{}, list...), more[:n]...)
	wantRecords(t, open(t, d), all...)
	wantAgain(t, d, all)
}

// wantAgain opens a file that was opened: that tells the same, and writes nothing.
func wantAgain(t *testing.T, d *disk.Disk, list [][]byte) {
	t.Helper()
	before := d.Writes()
	wantRecords(t, open(t, d), list...)
	wantWrites(t, d, before)
	if len(list) > 0 {
		wantFile(t, d, fileOf(list...))
	}
}

// P3.5: what a Journal wrote another one tells, on a copy of the disk, too; many records, that grow its memory many times.
func TestAgain(t *testing.T) {
	d := disk.New()
	j := open(t, d)
	var list [][]byte
	for k := range 2000 {
		list = append(list, some(k%50))
		ok(t, "Append", j.Append(list[k]))
	}
	wantRecords(t, j, list...)
	wantAgain(t, d, list)
	copied := d.Copy()
	copied.Cut(0)
	wantAgain(t, copied, list)
	wantWrites(t, copied, 0)
}
