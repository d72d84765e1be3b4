package octet_test

import (
	"bytes"
	"encoding/binary"
	"math"
	"slices"
	"strings"
	"testing"

	"espalier/octet"
)

// edgeNumbers are 0, 2^64 - 1, and what stands around each power of two, where a form gets longer.
func edgeNumbers() []uint64 {
	out := []uint64{0, 258, 300, math.MaxUint64}
	for shift := range 64 {
		p := uint64(1) << shift
		out = append(out, p-1, p, p+1)
	}
	return out
}

// heads are lists to write behind.
func heads() [][]byte {
	return [][]byte{nil, {}, {7}, {0, 0xff, 0x80}}
}

// P1.1: the rows of the examples.
func TestPutExamples(t *testing.T) {
	for _, c := range []struct {
		call      string
		got, want []byte
	}{
		{"PutUint(07, 300)", octet.PutUint([]byte{7}, 300), []byte{7, 0xac, 2}},
		{"PutUint(none, 0)", octet.PutUint(nil, 0), []byte{0}},
		{"PutUint(none, 127)", octet.PutUint(nil, 127), []byte{0x7f}},
		{"PutUint(none, 128)", octet.PutUint(nil, 128), []byte{0x80, 1}},
		{"PutUint(none, 2^64 - 1)", octet.PutUint(nil, math.MaxUint64), append(bytes.Repeat([]byte{0xff}, 9), 1)},
		{"PutWord(none, 258)", octet.PutWord(nil, 258), []byte{0, 0, 0, 0, 0, 0, 1, 2}},
		{"PutWord(09, ..)", octet.PutWord([]byte{9}, 0x0102030405060708), []byte{9, 1, 2, 3, 4, 5, 6, 7, 8}},
		{"PutText(none, ab)", octet.PutText(nil, "ab"), []byte{2, 'a', 'b'}},
		{"PutText(none, none)", octet.PutText(nil, ""), []byte{0}},
		{"PutText(05, broken bytes)", octet.PutText([]byte{5}, "\xff\x00"), []byte{5, 2, 0xff, 0}},
	} {
		if !bytes.Equal(c.got, c.want) {
			t.Errorf("%s: % x, not % x", c.call, c.got, c.want)
		}
	}
}

// P1.1: both forms of numbers, held against another writer of them.
func TestPutNumbers(t *testing.T) {
	for _, head := range heads() {
		for _, x := range edgeNumbers() {
			if got, want := octet.PutUint(head, x), binary.AppendUvarint(slices.Clone(head), x); !bytes.Equal(got, want) {
				t.Errorf("PutUint(% x, %d): % x, not % x", head, x, got, want)
			}
			if got, want := octet.PutWord(head, x), binary.BigEndian.AppendUint64(slices.Clone(head), x); !bytes.Equal(got, want) {
				t.Errorf("PutWord(% x, %d): % x, not % x", head, x, got, want)
			}
		}
	}
}

// P1.1: texts, short and long, where the length's form gets a second and a third byte.
func TestPutTexts(t *testing.T) {
	for _, head := range heads() {
		for _, n := range []int{0, 1, 127, 128, 129, 16383, 16384} {
			s := strings.Repeat("é", n/2) + strings.Repeat("x", n%2)
			want := append(binary.AppendUvarint(slices.Clone(head), uint64(n)), s...)
			if got := octet.PutText(head, s); !bytes.Equal(got, want) {
				t.Errorf("PutText(% x, %d bytes): %d bytes, or others", head, n, len(got))
			}
		}
	}
}

// P1.1 with R3: the room behind a list's end stays as it is, and no two answers share memory.
func TestPutTakesNewMemory(t *testing.T) {
	for name, put := range map[string]func([]byte) []byte{
		"PutUint": func(b []byte) []byte { return octet.PutUint(b, 300) },
		"PutWord": func(b []byte) []byte { return octet.PutWord(b, 258) },
		"PutText": func(b []byte) []byte { return octet.PutText(b, "ab") },
	} {
		room := bytes.Repeat([]byte{0xee}, 64)
		one, two := put(room[:3]), put(room[:3])
		if !bytes.Equal(room, bytes.Repeat([]byte{0xee}, 64)) {
			t.Errorf("%s wrote into the room behind its argument: % x", name, room)
		}
		clear(one[:cap(one)])
		if two[0] != 0xee || room[0] != 0xee {
			t.Errorf("%s answers memory that is shared", name)
		}
	}
}
