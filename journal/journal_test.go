package journal_test

import (
	"bytes"
	"math"
	"slices"
	"testing"

	"espalier/api"
	"espalier/disk"
	"espalier/journal"
)

// some is n bytes, of which neighbours are unlike.
func some(n int) []byte {
	b := make([]byte, n)
	for k := range b {
		b[k] = byte(k*7 + k>>8 + 1)
	}
	return b
}

// recordBytes is what the chapter says of a record's bytes, written down once more without the layers below.
func recordBytes(payload []byte) []byte {
	var b []byte
	n := len(payload)
	for ; n >= 128; n /= 128 {
		b = append(b, byte(128+n%128))
	}
	b = append(append(b, byte(n)), payload...)
	var h uint64 = 14695981039346656037
	for _, c := range payload {
		h = (h ^ uint64(c)) * 1099511628211
	}
	for shift := 56; shift >= 0; shift -= 8 {
		b = append(b, byte(h>>shift))
	}
	return b
}

func fileOf(list ...[]byte) []byte {
	var b []byte
	for _, payload := range list {
		b = append(b, recordBytes(payload)...)
	}
	return b
}

func want(t *testing.T, call string, err, asked api.Errno) {
	t.Helper()
	if err != asked {
		t.Errorf("%s: error %d, not %d", call, err, asked)
	}
}

func ok(t *testing.T, call string, err api.Errno) {
	t.Helper()
	want(t, call, err, api.OK)
}

// diskWith is a disk whose file "f" has just these bytes, and is there.
func diskWith(t *testing.T, b []byte) *disk.Disk {
	t.Helper()
	d := disk.New()
	ok(t, "disk.Append", d.Append("f", b))
	return d
}

func open(t *testing.T, d *disk.Disk) *journal.Journal {
	t.Helper()
	j, err := journal.Open(d, "f")
	if err != api.OK || j == nil {
		t.Fatalf("Open: %v, error %d", j, err)
	}
	return j
}

func wantFile(t *testing.T, d *disk.Disk, b []byte) {
	t.Helper()
	got, err := d.Read("f")
	if err != api.OK || !bytes.Equal(got, b) {
		t.Errorf("the file: %d bytes, error %d; not the %d bytes", len(got), err, len(b))
	}
}

func wantWrites(t *testing.T, d *disk.Disk, n int) {
	t.Helper()
	if got := d.Writes(); got != n {
		t.Errorf("Writes: %d, not %d", got, n)
	}
}

// wantRecords holds all that a Journal tells against a list of payloads.
func wantRecords(t *testing.T, j *journal.Journal, list ...[]byte) {
	t.Helper()
	if j.Len() != len(list) || j.Size() != len(fileOf(list...)) {
		t.Errorf("%d records of %d bytes, not %d of %d", j.Len(), j.Size(), len(list), len(fileOf(list...)))
	}
	for k, payload := range list {
		if got, err := j.Record(k); err != api.OK || !bytes.Equal(got, payload) {
			t.Errorf("Record(%d): %d bytes, error %d; not its %d", k, len(got), err, len(payload))
		}
	}
	for _, k := range []int{-1, len(list), len(list) + 1, math.MinInt, math.MaxInt} {
		if got, err := j.Record(k); got != nil || err != api.ErrNone {
			t.Errorf("Record(%d) of %d: %v, error %d", k, len(list), got, err)
		}
	}
	at := 0
	for k, payload := range j.Each() {
		if k != at || at >= len(list) || !bytes.Equal(payload, list[k]) {
			t.Fatalf("Each: tells %d at the place %d of %d, or other bytes", k, at, len(list))
		}
		at++
	}
	if at != len(list) {
		t.Errorf("Each: %d records, not %d", at, len(list))
	}
}

// The chapter's section 'Examples', row by row.
func TestExamples(t *testing.T) {
	d := disk.New()
	j := open(t, d)
	ok(t, "Append(61)", j.Append([]byte{0x61}))
	ok(t, "Append(none)", j.Append(nil))
	if j.Len() != 2 || j.Size() != 19 {
		t.Errorf("%d records of %d bytes", j.Len(), j.Size())
	}
	wantFile(t, d, []byte{
		0x01, 0x61, 0xaf, 0x63, 0xdc, 0x4c, 0x86, 0x01, 0xec, 0x8c,
		0x00, 0xcb, 0xf2, 0x9c, 0xe4, 0x84, 0x22, 0x23, 0x25,
	})
	if b, err := j.Record(0); err != api.OK || string(b) != "a" {
		t.Errorf("Record(0): %x, error %d", b, err)
	}
	if b, err := j.Record(2); b != nil || err != api.ErrNone {
		t.Errorf("Record(2): %x, error %d", b, err)
	}
	if n := open(t, d).Len(); n != 2 {
		t.Errorf("opened again: %d records", n)
	}

	for _, tail := range [][]byte{{0x01, 0x61, 0xaf}, {0x80}} {
		d := diskWith(t, tail)
		wantRecords(t, open(t, d))
		wantFile(t, d, nil)
	}
	for _, tail := range [][]byte{{0x01, 0x61, 0, 0, 0, 0, 0, 0, 0, 0}, {0x80, 0x00}} {
		wrong, err := journal.Open(diskWith(t, tail), "f")
		if wrong != nil || err != api.ErrBroken {
			t.Errorf("Open of % x: %v, error %d", tail, wrong, err)
		}
	}

	want(t, "Append of 2^18 and 1 bytes", j.Append(make([]byte, 1<<18+1)), api.ErrLong)
	if none, err := journal.Open(nil, "a"); none != nil || err != api.ErrNil {
		t.Errorf("Open of nil: %v, error %d", none, err)
	}
}

// P3.3: of records, by their numbers, with sizes at the edges of the short form.
func TestTold(t *testing.T) {
	d := disk.New()
	j := open(t, d)
	wantRecords(t, j)
	var list [][]byte
	for _, n := range []int{0, 1, 0, 127, 128, 129, 0, 16383, 16384, 3, 1 << 18, 2} {
		ok(t, "Append", j.Append(some(n)))
		list = append(list, some(n))
		wantRecords(t, j, list...)
		wantFile(t, d, fileOf(list...))
	}
	wantRecords(t, open(t, d), list...)
}

// P3.3, R4: of a nil Journal.
func TestNil(t *testing.T) {
	var j *journal.Journal
	want(t, "Append", j.Append(some(1)), api.ErrNil)
	want(t, "Append of too much", j.Append(some(api.MaxRecord+1)), api.ErrNil)
	if j.Len() != 0 || j.Size() != 0 {
		t.Errorf("%d records of %d bytes", j.Len(), j.Size())
	}
	for _, k := range []int{-1, 0, 1} {
		if b, err := j.Record(k); b != nil || err != api.ErrNil {
			t.Errorf("Record(%d): %v, error %d", k, b, err)
		}
	}
	for k := range j.Each() {
		t.Errorf("Each tells %d", k)
	}
}

// P3.3, R6: Each may be left early, and gone through again; it tells what there is when going through it begins.
func TestEachAgain(t *testing.T) {
	j := open(t, disk.New())
	each := j.Each()
	for k := range 5 {
		ok(t, "Append", j.Append(some(k)))
	}
	var told []int
	for k := range each {
		told = append(told, k)
		if k == 2 {
			break
		}
	}
	if !slices.Equal(told, []int{0, 1, 2}) {
		t.Errorf("left early it told %v", told)
	}
	told = nil
	for k, payload := range each {
		if !bytes.Equal(payload, some(k)) {
			t.Errorf("record %d: %v", k, payload)
		}
		told = append(told, k)
		ok(t, "Append on the way", j.Append(some(5+k)))
	}
	if !slices.Equal(told, []int{0, 1, 2, 3, 4}) {
		t.Errorf("appended to on the way it told %v", told)
	}
	told = nil
	for k := range each {
		told = append(told, k)
	}
	if len(told) != 10 || j.Len() != 10 {
		t.Errorf("again it told %v", told)
	}
}

// R3: what is answered is new memory, the room behind its end too.
func TestAnswersAreNew(t *testing.T) {
	j := open(t, diskWith(t, fileOf(some(5), some(6))))
	ok(t, "Append", j.Append(some(7)))
	spoil := func(b []byte) {
		for k := range b[:cap(b)] {
			b[:cap(b)][k] = 0xee
		}
	}
	for k := range 3 {
		b, _ := j.Record(k)
		spoil(b)
	}
	wantRecords(t, j, some(5), some(6), some(7))
	for _, b := range j.Each() {
		spoil(b)
	}
	wantRecords(t, j, some(5), some(6), some(7))
	ok(t, "Append", j.Append(some(8)))
	wantRecords(t, j, some(5), some(6), some(7), some(8))
}

// P3.3: what others write into the file a Journal does not see.
func TestOthersAreNotSeen(t *testing.T) {
	d := disk.New()
	j := open(t, d)
	ok(t, "Append", j.Append(some(3)))
	other := open(t, d)
	ok(t, "Append by another one", other.Append(some(4)))
	wantRecords(t, j, some(3))
	wantRecords(t, other, some(3), some(4))
	ok(t, "Remove", d.Remove("f"))
	wantRecords(t, j, some(3))
	ok(t, "Append", j.Append(some(5)))
	wantRecords(t, j, some(3), some(5))
	wantRecords(t, open(t, d), some(5))
}
