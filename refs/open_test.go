package refs_test

import (
	"bytes"
	"encoding/binary"
	"hash/fnv"
	"strconv"
	"strings"
	"testing"

	"espalier/api"
	"espalier/disk"
)

// recordOf is a journal's record of a payload, by another reckoning than the journal's.
func recordOf(payload string) []byte {
	hash := fnv.New64a()
	hash.Write([]byte(payload))
	b := append(binary.AppendUvarint(nil, uint64(len(payload))), payload...)
	return binary.BigEndian.AppendUint64(b, hash.Sum64())
}

// changeOf is a change as it stands in a payload.
func changeOf(name string, id api.Id) string {
	b := append(binary.AppendUvarint(nil, uint64(len(name))), name...)
	return string(binary.BigEndian.AppendUint64(b, uint64(id)))
}

// payloadOf is the payload that says these changes.
func payloadOf(l ...api.Ref) string {
	payload := string(binary.AppendUvarint(nil, uint64(len(l))))
	for _, change := range l {
		payload += changeOf(change.Name, change.Id)
	}
	return payload
}

// row is the record that says these changes.
func row(l ...api.Ref) []byte { return recordOf(payloadOf(l...)) }

// diskOf is a disk with a refs' file of these bytes.
func diskOf(t *testing.T, parts ...[]byte) *disk.Disk {
	t.Helper()
	d := disk.New()
	if err := d.Append("refs", bytes.Join(parts, nil)); err != api.OK {
		t.Fatalf("Append: error %d", err)
	}
	return d
}

func wantFile(t *testing.T, d *disk.Disk, parts ...[]byte) {
	t.Helper()
	asked := bytes.Join(parts, nil)
	b, err := d.Read("refs")
	if err == api.ErrNone && len(asked) == 0 {
		return // nothing was ever written
	}
	if err != api.OK || !bytes.Equal(b, asked) {
		t.Errorf("the file: %q %d, not %q", b, err, asked)
	}
}

// many is so many changes of names with a letter ahead, which rise.
func many(letter string, n int, id api.Id) []api.Ref {
	var l []api.Ref
	for k := range n {
		l = append(l, ref(letter+strconv.Itoa(1000+k), id))
	}
	return l
}

// P8.1: of no disk, of a new one (which is not written to), of other files.
func TestOpenNew(t *testing.T) {
	wantOpen(t, "no disk", nil, api.ErrNil)
	d := disk.New()
	wantRefs(t, open(t, d))
	wantWrites(t, d, 0)
	if _, err := d.Size("refs"); err != api.ErrNone {
		t.Errorf("the file is there: %d", err)
	}
	for _, name := range []string{"ref", "refs.0", "objects", "heads"} {
		if err := d.Append(name, []byte("no records")); err != api.OK {
			t.Fatal(err)
		}
	}
	wantRefs(t, open(t, d))
	wantRefs(t, open(t, diskOf(t)))
}

// P8.1, P8.4: the refs are what the records say, one after the other; what is so already may be said once more.
func TestOpenFile(t *testing.T) {
	file := [][]byte{
		row(ref("b", 1), ref("a/b", 2)),
		row(ref("a", 3), ref("b", 4)),
		row(ref("a/b", 0), ref("c", 1<<63+5), ref("a", 3)),
		row(ref("c", 1<<63+5)),
		row(ref("b", 0)),
		row(ref("b", 6), ref("a", 0)),
	}
	rows := [][]api.Ref{
		nil,
		{ref("a/b", 2), ref("b", 1)},
		{ref("a", 3), ref("a/b", 2), ref("b", 4)},
		{ref("a", 3), ref("b", 4), ref("c", 1<<63+5)},
		{ref("a", 3), ref("b", 4), ref("c", 1<<63+5)},
		{ref("a", 3), ref("c", 1<<63+5)},
		{ref("b", 6), ref("c", 1<<63+5)},
	}
	for n, l := range rows {
		d := diskOf(t, file[:n]...)
		before := d.Writes()
		wantRefs(t, open(t, d), l...)
		wantWrites(t, d, before)
	}
}

// P8.1: names at the limits of paths.
func TestOpenLongNames(t *testing.T) {
	long := strings.Repeat(strings.Repeat("x", 32)+"/", 6) + "xx"
	deep := strings.Repeat("d/", 15) + "d"
	wantRefs(t, open(t, diskOf(t, row(ref(long, 1), ref(deep, 2)))), ref(deep, 2), ref(long, 1))
	wantOpen(t, "a name of 201 bytes", diskOf(t, row(ref(long+"x", 1))), api.ErrBroken)
	wantOpen(t, "a name of 17 names", diskOf(t, row(ref(deep+"/d", 1))), api.ErrBroken)
	wantOpen(t, "a name of 33 bytes", diskOf(t, row(ref(strings.Repeat("x", 33), 1))), api.ErrBroken)
}

// broken wants a record to be refused alone, ahead of others, between them and behind them.
func broken(t *testing.T, what string, wrong []byte) {
	t.Helper()
	one, two := row(ref("a", 1)), row(ref("b", 2), ref("c", 3))
	wantOpen(t, what, diskOf(t, wrong), api.ErrBroken)
	wantOpen(t, what+" ahead", diskOf(t, wrong, one, two), api.ErrBroken)
	wantOpen(t, what+" between", diskOf(t, one, wrong, two), api.ErrBroken)
	wantOpen(t, what+" behind", diskOf(t, one, two, wrong), api.ErrBroken)
}

// P8.1: records that are not made as said.
func TestOpenNotMade(t *testing.T) {
	good := payloadOf(ref("x", 5), ref("y/z", 6))
	for cut := range len(good) {
		broken(t, "a payload's beginning", recordOf(good[:cut]))
	}
	broken(t, "no changes", recordOf("\x00"))
	broken(t, "no changes, and one", recordOf("\x00"+changeOf("x", 5)))
	broken(t, "one byte more", recordOf(good+"\x00"))
	broken(t, "one change more", recordOf(good+changeOf("v", 5)))
	broken(t, "one change less", recordOf("\x03"+good[1:]))
	broken(t, "a long form of the number", recordOf("\x82\x00"+good[1:]))
	broken(t, "a great number", recordOf("\xff\xff\xff\xff\xff\xff\xff\xff\xff\x01"+good[1:]))
	broken(t, "a number that is none", recordOf("\xff\xff\xff\xff\xff\xff\xff\xff\xff\x02"+good[1:]))
	broken(t, "a long form of a name's length", recordOf("\x01\x81\x00x"+changeOf("x", 5)[2:]))
	broken(t, "a great length", recordOf("\x01\xff\xff\xff\xff\xff\xff\xff\xff\xff\x01x"+changeOf("x", 5)[2:]))
	wantRefs(t, open(t, diskOf(t, recordOf(good))), ref("x", 5), ref("y/z", 6))
}

// P8.1: names that no ref has.
func TestOpenNoName(t *testing.T) {
	for _, name := range []string{"", "/", "/x", "x/", "x//y", ".", "x/..", "x\x00", "\xff", "x\x7f", "\n"} {
		broken(t, "the name "+strconv.Quote(name), row(ref(name, 5)))
		broken(t, "the name "+strconv.Quote(name)+" behind one", row(ref("x", 5), ref(name, 5)))
		broken(t, "the name "+strconv.Quote(name)+" away", row(ref("x", 5), ref(name, 0)))
	}
}

// P8.1: a name twice in one record, and an Id 0 beside a name that leads nowhere by then.
func TestOpenTwiceAndNowhere(t *testing.T) {
	for _, id := range []api.Id{0, 5, 6} {
		broken(t, "a name twice", row(ref("x", 5), ref("x", id)))
		broken(t, "a name twice, apart", row(ref("x", 5), ref("y", 5), ref("x", id)))
		wantOpen(t, "a name away, and set", diskOf(t, row(ref("x", 5)), row(ref("x", 0), ref("x", id))), api.ErrBroken)
	}
	broken(t, "nowhere", row(ref("x", 0)))
	broken(t, "nowhere, behind one", row(ref("y", 1), ref("x", 0)))
	wantOpen(t, "away twice", diskOf(t, row(ref("x", 5)), row(ref("x", 0)), row(ref("x", 0))), api.ErrBroken)
	wantRefs(t, open(t, diskOf(t, row(ref("x", 5)), row(ref("x", 0)), row(ref("x", 6)))), ref("x", 6))
}

// P8.1: as many refs as may be behind each record, and one more.
func TestOpenMany(t *testing.T) {
	full := many("a", 64, 1)
	wantRefs(t, open(t, diskOf(t, row(full...))), full...)
	wantOpen(t, "65 in one", diskOf(t, row(many("a", 65, 1)...)), api.ErrBroken)
	wantOpen(t, "65 in two", diskOf(t, row(full...), row(ref("b", 1))), api.ErrBroken)
	wantOpen(t, "65, then 64", diskOf(t, row(full...), row(ref("b", 1)), row(ref("b", 0))), api.ErrBroken)

	// Within a record there may be more by then.
	other := many("b", 64, 2)
	changed := append(append([]api.Ref{}, other...), many("a", 64, 0)...)
	wantRefs(t, open(t, diskOf(t, row(full...), row(changed...))), other...)
	wantOpen(t, "one not away", diskOf(t, row(full...), row(changed[:127]...)), api.ErrBroken)
	again := many("a", 64, 3)
	wantRefs(t, open(t, diskOf(t, row(full...), row(again...))), again...)
}

// P8.1: what journal.Open answers: wrong bytes; a beginning of a record is taken away, ahead of all else.
func TestOpenJournal(t *testing.T) {
	whole, next := row(ref("a", 1), ref("b", 2)), row(ref("a", 3))
	changed := bytes.Clone(whole)
	changed[len(changed)-1]++
	wantOpen(t, "a wrong hash", diskOf(t, changed), api.ErrBroken)
	wantOpen(t, "wrong bytes behind", diskOf(t, whole, []byte{0x80, 0}), api.ErrBroken)
	for cut := range next {
		d := diskOf(t, whole, next[:cut])
		before := d.Writes()
		if cut > 0 {
			d.Cut(0)
			wantOpen(t, "a cut disk", d, api.ErrCut)
			d.Mend()
			before++
		}
		wantRefs(t, open(t, d), ref("a", 1), ref("b", 2))
		wantWrites(t, d, before)
		wantFile(t, d, whole)
	}
	d := diskOf(t, whole)
	d.Cut(0)
	wantRefs(t, open(t, d), ref("a", 1), ref("b", 2))

	nowhere := row(ref("x", 0))
	d = diskOf(t, nowhere, next[:1])
	d.Cut(0)
	wantOpen(t, "nowhere, a tail, cut", d, api.ErrCut)
	d.Mend()
	wantOpen(t, "nowhere, a tail", d, api.ErrBroken)
	wantFile(t, d, nowhere)
}
