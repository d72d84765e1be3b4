package store_test

import (
	"bytes"
	"encoding/binary"
	"hash/fnv"
	"testing"

	"espalier/api"
	"espalier/disk"
)

// recordOf is a journal's record of a payload, by another reckoning than the journal's.
func recordOf(payload []byte) []byte {
	hash := fnv.New64a()
	hash.Write(payload)
	b := append(binary.AppendUvarint(nil, uint64(len(payload))), payload...)
	return binary.BigEndian.AppendUint64(b, hash.Sum64())
}

// fileOf is the file of a store of these objects.
func fileOf(list ...api.Object) []byte {
	var b []byte
	for _, o := range list {
		b = append(b, recordOf(bytesOf(o))...)
	}
	return b
}

// diskOf is a disk with a store's file of these bytes.
func diskOf(t *testing.T, parts ...[]byte) *disk.Disk {
	t.Helper()
	d := disk.New()
	if err := d.Append("objects", bytes.Join(parts, nil)); err != api.OK {
		t.Fatalf("Append: error %d", err)
	}
	return d
}

func wantFile(t *testing.T, d *disk.Disk, asked []byte) {
	t.Helper()
	b, err := d.Read("objects")
	if err == api.ErrNone && len(asked) == 0 {
		return // nothing was ever written
	}
	if err != api.OK || !bytes.Equal(b, asked) {
		t.Errorf("the file: % x %d, not % x", b, err, asked)
	}
}

// P7.1: of no disk, of a new one (which is not written to), of other files.
func TestOpenNew(t *testing.T) {
	wantOpen(t, "no disk", nil, api.ErrNil)
	d := disk.New()
	wantObjects(t, open(t, d))
	wantWrites(t, d, 0)
	if _, err := d.Size("objects"); err != api.ErrNone {
		t.Errorf("the file is there: %d", err)
	}
	for _, name := range []string{"object", "objects.0", "refs", "store"} {
		if err := d.Append(name, []byte("no records")); err != api.OK {
			t.Fatal(err)
		}
	}
	wantObjects(t, open(t, d))
	wantObjects(t, open(t, diskOf(t)))
}

// P7.1: the objects of a file, and the file of objects: records of their bytes in order.
func TestOpenFile(t *testing.T) {
	list := []api.Object{exampleTree(), exampleBlob(), exampleCommit(), api.Blob{}, api.Tree{}, zeroBlob()}
	d := diskOf(t, fileOf(list...))
	before := d.Writes()
	s := open(t, d)
	wantObjects(t, s, list...)
	wantWrites(t, d, before)
	put(t, s, list...)
	wantWrites(t, d, before)
	put(t, s, blobOf("more"))
	wantFile(t, d, fileOf(append(list, blobOf("more"))...))

	d = disk.New()
	put(t, open(t, d), list...)
	wantFile(t, d, fileOf(list...))
	if names := d.Names(); len(names) != 1 {
		t.Errorf("files %q", names)
	}
}

// P7.1: a record that is no object's bytes, wherever it stands.
func TestOpenNoObject(t *testing.T) {
	one, two := fileOf(exampleBlob()), fileOf(exampleTree())
	for _, payload := range []string{"", "a", "t", "t\x00\x00", "u", "t\x80\x00", "B", "c", "t\x01\x01x\x00\x00\x00\x00\x00\x00\x00\x00\x00", "b" + string(make([]byte, 4097))} {
		wrong := recordOf([]byte(payload))
		wantOpen(t, "a wrong record", diskOf(t, wrong), api.ErrBroken)
		wantOpen(t, "one ahead", diskOf(t, wrong, one, two), api.ErrBroken)
		wantOpen(t, "one between", diskOf(t, one, wrong, two), api.ErrBroken)
		wantOpen(t, "one behind", diskOf(t, one, two, wrong), api.ErrBroken)
	}
	wantObjects(t, open(t, diskOf(t, recordOf(append([]byte("b"), make([]byte, 4096)...)))), api.Blob{Bytes: make([]byte, 4096)})
}

// P7.1: a record with the id of one ahead of it, with the same bytes or others.
func TestOpenTwice(t *testing.T) {
	one, other := colliding("")
	wantOpen(t, "an object twice", diskOf(t, fileOf(exampleBlob(), exampleBlob())), api.ErrBroken)
	wantOpen(t, "the first one again", diskOf(t, fileOf(exampleBlob(), exampleTree(), blobOf(""), exampleBlob())), api.ErrBroken)
	wantOpen(t, "a collision", diskOf(t, fileOf(one, other)), api.ErrBroken)
	wantOpen(t, "a collision further on", diskOf(t, fileOf(other, exampleTree(), one)), api.ErrBroken)
	wantOpen(t, "the id 1 twice", diskOf(t, fileOf(zeroBlob(), zeroBlob())), api.ErrBroken)
	wantObjects(t, open(t, diskOf(t, fileOf(one))), one)
	wantObjects(t, open(t, diskOf(t, fileOf(other))), other)
}

// P7.1: what journal.Open answers: wrong bytes; a beginning of a record is taken away, ahead of all else.
func TestOpenJournal(t *testing.T) {
	whole, next := fileOf(exampleBlob(), exampleTree()), fileOf(exampleCommit())
	changed := bytes.Clone(whole)
	changed[len(changed)-1]++
	wantOpen(t, "a wrong hash", diskOf(t, changed), api.ErrBroken)
	wantOpen(t, "wrong bytes behind", diskOf(t, whole, []byte{0x80, 0}), api.ErrBroken)
	for cut := range next {
		d := diskOf(t, whole, next[:cut])
		before := d.Writes()
		if cut > 0 {
			d.Cut(0)
			wantOpen(t, "a cut disk", d, api.ErrCut)
			d.Mend()
			before++
		}
		wantObjects(t, open(t, d), exampleBlob(), exampleTree())
		wantWrites(t, d, before)
		wantFile(t, d, whole)
	}
	d := diskOf(t, whole)
	d.Cut(0)
	wantObjects(t, open(t, d), exampleBlob(), exampleTree())

	twice := fileOf(exampleBlob(), exampleBlob())
	d = diskOf(t, twice, next[:1])
	d.Cut(0)
	wantOpen(t, "an object twice, a tail, cut", d, api.ErrCut)
	d.Mend()
	wantOpen(t, "an object twice, a tail", d, api.ErrBroken)
	wantFile(t, d, twice)
}

// manyBlobs is that many blobs, as a store's file.
func manyBlobs(n int) []byte {
	var b []byte
	for k := range n {
		b = append(b, recordOf([]byte{'b', byte(k), byte(k >> 8), byte(k >> 16)})...)
	}
	return b
}

func manyBlob(k int) api.Blob { return api.Blob{Bytes: []byte{byte(k), byte(k >> 8), byte(k >> 16)}} }

// P7.1, R8: as many objects as may be, and one more; a broken record is told ahead of that, behind them all, too.
func TestOpenLong(t *testing.T) {
	all := manyBlobs(api.MaxObjects)
	s := open(t, diskOf(t, all))
	if s.Len() != 1<<16 || !s.Has(idOf(manyBlob(0))) || !s.Has(idOf(manyBlob(1<<16-1))) || s.Has(idOf(manyBlob(1<<16))) {
		t.Errorf("%d objects", s.Len())
	}
	more := manyBlobs(api.MaxObjects + 1)
	wantOpen(t, "one more", diskOf(t, more), api.ErrLong)
	wantOpen(t, "two more", diskOf(t, more, fileOf(exampleTree())), api.ErrLong)
	wantOpen(t, "one more, and the first one again", diskOf(t, more, fileOf(manyBlob(0))), api.ErrBroken)
	wantOpen(t, "the most, and the last one again", diskOf(t, all, fileOf(manyBlob(1<<16-1))), api.ErrBroken)
	wantOpen(t, "the most, and no object", diskOf(t, all, recordOf([]byte("x"))), api.ErrBroken)
	wantOpen(t, "one more, and no object", diskOf(t, more, recordOf(nil)), api.ErrBroken)
}
