package object_test

import (
	"bytes"
	"encoding/hex"
	"math"
	"math/rand"
	"strings"
	"testing"

	"espalier/api"
	"espalier/object"
)

// row is bytes to the base 16.
func row(digits string) []byte {
	b, err := hex.DecodeString(strings.ReplaceAll(digits, " ", ""))
	if err != nil {
		panic(err)
	}
	return b
}

func encoded(t *testing.T, o api.Object) []byte {
	t.Helper()
	b, err := object.Encode(o)
	if err != api.OK {
		t.Fatalf("Encode(%#v): %d", o, err)
	}
	return b
}

// wantBytes holds an object against its bytes, there and back.
func wantBytes(t *testing.T, o api.Object, asked []byte) {
	t.Helper()
	if b := encoded(t, o); !bytes.Equal(b, asked) {
		t.Errorf("Encode(%#v): % x, not % x", o, b, asked)
	}
	if back, err := object.Decode(asked); err != api.OK || !equal(back, o) {
		t.Errorf("Decode(% x): %#v %d, not %#v", asked, back, err, o)
	}
}

func wantBroken(t *testing.T, b []byte) {
	t.Helper()
	if o, err := object.Decode(b); o != nil || err != api.ErrBroken {
		t.Errorf("Decode(% x): %#v %d", b, o, err)
	}
}

// The chapter's rows of Encode and Decode.
func TestExamplesBytes(t *testing.T) {
	wantBytes(t, exampleBlob(), row("62 61 62"))
	wantBytes(t, api.Blob{}, row("62"))
	wantBytes(t, api.Tree{}, row("74 00"))
	wantBytes(t, exampleTree(), row("74 01 01 78 00 00 00 00 00 00 00 01 02"))
	wantBytes(t, exampleCommit(), row("63 00 00 00 00 00 00 01 02 01 00 00 00 00 00 00 00 01 02 c3 a9 ff ff ff ff ff ff ff ff 00"))
	for _, digits := range []string{"", "74", "74 00 00", "75", "74 80 00"} {
		wantBroken(t, row(digits))
	}
}

// P6.2: lists that are nil and empty are one.
func TestNilAndEmpty(t *testing.T) {
	wantBytes(t, api.Blob{Bytes: []byte{}}, row("62"))
	wantBytes(t, api.Tree{Entries: []api.Entry{}}, row("74 00"))
	wantBytes(t, api.Commit{Tree: 1, Parents: []api.Id{}}, row("63 00 00 00 00 00 00 00 01 00 00 00 00 00 00 00 00 00 00 00"))
	wantBytes(t, api.Commit{Tree: 1}, row("63 00 00 00 00 00 00 00 01 00 00 00 00 00 00 00 00 00 00 00"))
}

// P6.2: folders, dates below 0, texts of 128 bytes and more, lists at their limits.
func TestBytesEdges(t *testing.T) {
	wantBytes(t, treeOf(api.Entry{Name: "a", Folder: true, Id: 1}, api.Entry{Name: "é", Id: math.MaxUint64}),
		row("74 02 01 61 01 00 00 00 00 00 00 00 01 02 c3 a9 00 ff ff ff ff ff ff ff ff"))
	for date, digits := range map[int64]string{
		0: "00 00 00 00 00 00 00 00", 1: "00 00 00 00 00 00 00 01", -2: "ff ff ff ff ff ff ff fe",
		math.MaxInt64: "7f ff ff ff ff ff ff ff", math.MinInt64: "80 00 00 00 00 00 00 00", 0x0102030405060708: "01 02 03 04 05 06 07 08",
	} {
		wantBytes(t, api.Commit{Tree: 1, Date: date}, row("63 00 00 00 00 00 00 00 01 00 00"+digits+"00"))
	}
	text := strings.Repeat("a", 1024)
	head := "63 00 00 00 00 00 00 00 01 00 00 00 00 00 00 00 00 00 00"
	wantBytes(t, api.Commit{Tree: 1, Text: text[:127]}, append(row(head+"7f"), text[:127]...))
	wantBytes(t, api.Commit{Tree: 1, Text: text[:128]}, append(row(head+"80 01"), text[:128]...))
	wantBytes(t, api.Commit{Tree: 1, Text: text}, append(row(head+"80 08"), text...))
	for _, o := range []api.Object{
		api.Blob{Bytes: bytes.Repeat([]byte{0}, 4096)}, treeOf(numbered(127)...), treeOf(numbered(128)...), treeOf(numbered(256)...),
		changed(func(c *api.Commit) { c.Parents = []api.Id{8, 8, 6, 5, 4, 3, 2, 1}; c.Author = text[:64]; c.Text = text }),
	} {
		wantBytes(t, o, bytesOf(o))
	}
}

// P6.2: bytes of the form of an object that may not be are none.
func TestDecodeOfWhatMayNotBe(t *testing.T) {
	for _, o := range []api.Object{
		api.Blob{Bytes: make([]byte, 4097)}, treeOf(numbered(257)...), treeOf(file("b"), file("a")), treeOf(file("a"), file("a")), treeOf(file("")),
		treeOf(file("a/b")), treeOf(file(".")), treeOf(file("a\xff")), treeOf(file(strings.Repeat("a", 33))), treeOf(api.Entry{Name: "a"}),
		api.Commit{}, changed(func(c *api.Commit) { c.Parents = []api.Id{1, 2, 3, 4, 5, 6, 7, 8, 9} }), changed(func(c *api.Commit) { c.Parents = []api.Id{1, 0} }),
		changed(func(c *api.Commit) { c.Author = "\xff" }), changed(func(c *api.Commit) { c.Author = "\x00" }), changed(func(c *api.Commit) { c.Author = strings.Repeat("a", 65) }),
		changed(func(c *api.Commit) { c.Text = "\xff" }), changed(func(c *api.Commit) { c.Text = "a\x00" }), changed(func(c *api.Commit) { c.Text = strings.Repeat("a", 1025) }),
	} {
		if errorOf(o) == api.OK {
			t.Errorf("%#v may be", o)
		}
		wantBroken(t, bytesOf(o))
	}
}

// P6.2: forms that no object's bytes have.
func TestDecodeRefuses(t *testing.T) {
	for _, digits := range []string{
		"00", "01", "42", "54", "61", "64", "73", "76", "ff", "20 62",
		"74 01",                                  // no entry
		"74 01 01 78 02 00 00 00 00 00 00 01 02", // neither a file nor a folder
		"74 01 01 78 ff 00 00 00 00 00 00 01 02",
		"74 81 00 01 78 00 00 00 00 00 00 00 01 02", // a count at too great a length
		"74 01 81 00 78 00 00 00 00 00 00 00 01 02", // a text's size at too great a length
		"74 02 01 78 00 00 00 00 00 00 00 01 02",    // one entry too few
		"74 00 01 78 00 00 00 00 00 00 00 01 02",    // one too many
		"74 ff ff ff ff ff ff ff ff ff 01",          // a count beyond all bytes
		"74 ff ff ff ff ff ff ff ff ff 02",          // beyond all numbers
		"74 ff ff ff ff ff ff ff ff ff 01 01 78 00 00 00 00 00 00 00 01 02",
		"74 01 ff ff ff ff ff ff ff ff ff 01 78", // a text beyond all bytes
		"63",
		"63 00 00 00 00 00 00 00 01",
		"63 00 00 00 00 00 00 00 01 ff ff ff ff ff ff ff ff ff 01 00 00 00 00 00 00 00 01",
		"63 00 00 00 00 00 00 00 01 80 00 00 00 00 00 00 00 00 00 00 00",
		"63 00 00 00 00 00 00 00 01 00 00 00 00 00 00 00 00 00 00 00 00",
	} {
		wantBroken(t, row(digits))
	}
}

// P6.2, P6.6: of each row of few bytes Decode tells an object just if its bytes are that row.
func TestDecodeShortRows(t *testing.T) {
	letters := []byte{'b', 't', 'c', 0, 1, 0x80}
	rows := [][]byte{nil}
	for len(rows[0]) < 6 {
		var longer [][]byte
		for _, b := range rows {
			holdRow(t, b)
			for _, c := range letters {
				longer = append(longer, append(b[:len(b):len(b)], c))
			}
		}
		rows = longer
	}
}

// holdRow holds that what Decode tells of some bytes is an object that may be, and has just these.
func holdRow(t *testing.T, b []byte) bool {
	t.Helper()
	o, err := object.Decode(b)
	if err != api.OK {
		if o != nil || err != api.ErrBroken {
			t.Fatalf("Decode(% x): %#v %d", b, o, err)
		}
		return false
	}
	if errorOf(o) != api.OK || !bytes.Equal(bytesOf(o), b) {
		t.Fatalf("Decode(% x): %#v", b, o)
	}
	if again, err := object.Encode(o); err != api.OK || !bytes.Equal(again, b) {
		t.Fatalf("Encode of Decode(% x): % x %d", b, again, err)
	}
	return true
}

// P6.2, P6.6: there and back, of many objects; others are refused.
func TestThereAndBack(t *testing.T) {
	r := rand.New(rand.NewSource(63))
	for k := range 10000 {
		o := randomObject(r, k%4 == 0)
		asked := errorOf(o)
		b, err := object.Encode(o)
		if err != asked {
			t.Fatalf("Encode(%#v): %d, not %d", o, err, asked)
		}
		if asked != api.OK {
			if b != nil {
				t.Fatalf("Encode(%#v): % x beside an error", o, b)
			}
			wantBroken(t, bytesOf(o))
			continue
		}
		if !bytes.Equal(b, bytesOf(o)) {
			t.Fatalf("Encode(%#v): % x, not % x", o, b, bytesOf(o))
		}
		if back, err := object.Decode(b); err != api.OK || !equal(back, o) {
			t.Fatalf("Decode(% x): %#v %d, not %#v", b, back, err, o)
		}
	}
}

// P6.6: the bytes of a tree or of a commit, cut anywhere or with a byte behind them, are none; those of a blob are another blob's.
func TestByteLessOrMore(t *testing.T) {
	for _, o := range []api.Object{
		exampleBlob(), api.Tree{}, exampleTree(), treeOf(numbered(3)...), treeOf(numbered(130)...), exampleCommit(), api.Commit{Tree: 1},
		changed(func(c *api.Commit) { c.Parents = []api.Id{1, 1, 0x0100}; c.Text = strings.Repeat("é", 100) }),
	} {
		b := encoded(t, o)
		isBlob := object.Kind(o) == api.KindBlob
		for most := range len(b) {
			if told := holdRow(t, b[:most]); told != (isBlob && most > 0) {
				t.Errorf("% x, cut behind %d", b, most)
			}
		}
		for c := range 256 {
			if told := holdRow(t, append(b[:len(b):len(b)], byte(c))); told != isBlob {
				t.Errorf("% x, and %02x", b, c)
			}
		}
		for at := range min(len(b), 200) {
			for c := range 256 {
				other := bytes.Clone(b)
				other[at] = byte(c)
				holdRow(t, other)
			}
			holdRow(t, append(bytes.Clone(b[:at]), b[at+1:]...))
		}
	}
}

// P6.2, R3: neither what is handed in nor what is answered shares memory with anything.
func TestBytesShareNothing(t *testing.T) {
	for _, o := range []api.Object{exampleBlob(), treeOf(numbered(2)...), changed(func(c *api.Commit) { c.Parents = []api.Id{5, 6} })} {
		asked := bytesOf(o)
		room := append(bytes.Clone(asked), 0xee, 0xee)
		back, err := object.Decode(room[:len(asked)])
		if err != api.OK || !bytes.Equal(room, append(bytes.Clone(asked), 0xee, 0xee)) {
			t.Fatalf("Decode: %d, and what was handed in is % x", err, room)
		}
		for k := range room {
			room[k] = 0xee
		}
		if !equal(back, o) {
			t.Errorf("Decode keeps what it was handed: %#v", back)
		}
		b := encoded(t, o)
		spoil(b)
		if again := encoded(t, o); !bytes.Equal(again, asked) {
			t.Errorf("what Encode answered is the object's: % x", again)
		}
	}
	blob := api.Blob{Bytes: []byte("abcd")[:2]}
	if encoded(t, blob); string(blob.Bytes[:4]) != "abcd" {
		t.Errorf("Encode changed what stands behind a blob's end: %s", blob.Bytes[:4])
	}
}

// spoil writes over a list, and over the room behind its end.
func spoil[T any](list []T) {
	var zero T
	list = list[:cap(list)]
	for k := range list {
		list[k] = zero
	}
}
