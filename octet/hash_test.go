package octet_test

import (
	"fmt"
	"hash/fnv"
	"strings"
	"testing"

	"espalier/api"
	"espalier/octet"
)

// rows are some rows of bytes of many lengths.
func rows() [][]byte {
	out := [][]byte{nil, {0}, {0, 0}, {0xff}, []byte("a"), []byte("foobar")}
	row := []byte{}
	for i := range 100 {
		row = append(row, byte(i*i+7*i))
		out = append(out, append([]byte{}, row...))
	}
	return out
}

// P1.2: the rows of the examples, and the hash held against another one that reckons it.
func TestHash(t *testing.T) {
	for _, c := range []struct{ row, want string }{
		{"", "cbf29ce484222325"},
		{"a", "af63dc4c8601ec8c"},
		{"foobar", "85944171f73967e8"},
	} {
		if got := octet.Hex(octet.Hash([]byte(c.row))); got != c.want {
			t.Errorf("Hash(%q): %s, not %s", c.row, got, c.want)
		}
	}
	for _, row := range rows() {
		other := fnv.New64a()
		other.Write(row)
		if got := octet.Hash(row); got != other.Sum64() {
			t.Errorf("Hash(% x): %x, not %x", row, got, other.Sum64())
		}
	}
}

// P1.5: one byte more is one step more.
func TestHashStep(t *testing.T) {
	for _, row := range rows() {
		for _, c := range []byte{0, 1, 0x7f, 0x80, 0xff} {
			want := (octet.Hash(row) ^ uint64(c)) * 1099511628211
			if got := octet.Hash(append(row[:len(row):len(row)], c)); got != want {
				t.Errorf("Hash(% x %02x): %x, not %x", row, c, got, want)
			}
		}
	}
}

// P1.5: rows that differ in one byte alone have unlike hashes.
func TestHashTellsOneByte(t *testing.T) {
	row := []byte("a row of bytes")
	for i, was := range row {
		seen := map[uint64]int{}
		for c := range 256 {
			row[i] = byte(c)
			seen[octet.Hash(row)]++
		}
		if row[i] = was; len(seen) != 256 {
			t.Errorf("place %d: %d hashes, not 256", i, len(seen))
		}
	}
}

// P1.2, P1.5: sixteen digits, and the number back from them.
func TestHex(t *testing.T) {
	for _, x := range edgeNumbers() {
		s := octet.Hex(x)
		if want := fmt.Sprintf("%016x", x); s != want {
			t.Errorf("Hex(%d): %s, not %s", x, s, want)
		}
		if back, err := octet.Unhex(s); back != x || err != api.OK {
			t.Errorf("Unhex(%s): %d, %d", s, back, err)
		}
	}
	for _, c := range []struct {
		s string
		x uint64
	}{{"00000000000000ff", 255}, {"0123456789abcdef", 0x0123456789abcdef}, {"fedcba9876543210", 0xfedcba9876543210}} {
		if x, err := octet.Unhex(c.s); x != c.x || err != api.OK {
			t.Errorf("Unhex(%s): %d, %d", c.s, x, err)
		}
	}
}

// P1.2: what is Hex of no number is refused.
func TestUnhexRefuses(t *testing.T) {
	wrong := []string{
		"", "f", "ff", "00000000000000FF", strings.Repeat("0", 15), strings.Repeat("0", 17), strings.Repeat("0", 32),
		"0x000000000000ff", "+0000000000000ff", "-0000000000000ff", " 0000000000000ff", "0000000000000ff ", "0000000000000_ff",
		"00000000000000é", "0000000000000٣0", "\xff000000000000000",
	}
	for c := range 256 {
		if !strings.ContainsRune("0123456789abcdef", rune(c)) {
			wrong = append(wrong, string([]byte{byte(c)})+strings.Repeat("0", 15), strings.Repeat("1", 15)+string([]byte{byte(c)}))
		}
	}
	for _, s := range wrong {
		if x, err := octet.Unhex(s); x != 0 || err != api.ErrBroken {
			t.Errorf("Unhex(%q): %d, %d", s, x, err)
		}
	}
}
