package run_test

import (
	"bytes"
	"encoding/binary"
	"math/rand"
	"slices"
	"testing"

	"espalier/api"
	"espalier/run"
)

// some is runs of several lengths, short ones, and one whose number has two bytes.
func some() [][]byte {
	return [][]byte{bytesOf(), bytesOf(pair(1, 0)), bytesOf(pair(3, 9), pair(7, 0)), bytesOf(many(5)...), bytesOf(many(130)...)}
}

// P17.5: each byte turned into each other one; those of the number lead to other lengths, so that they are told, too.
func TestTurned(t *testing.T) {
	for _, b := range some()[:4] {
		for at, was := range b {
			for c := range 256 {
				if b[at] = byte(c); b[at] != was {
					wantBroken(t, "turned", b)
				}
			}
			b[at] = was
		}
	}
	long := some()[4]
	for at := range long {
		for _, bit := range []byte{1, 2, 0x40, 0x80, 0xff} {
			long[at] ^= bit
			wantBroken(t, "turned", long)
			long[at] ^= bit
		}
	}
}

// P17.2: bytes taken away, or put in, at each place.
func TestLessAndMore(t *testing.T) {
	for _, b := range some() {
		for at := range b {
			wantBroken(t, "a beginning", b[:at])
			wantBroken(t, "without one", slices.Delete(slices.Clone(b), at, at+1))
			if at > 0 {
				wantBroken(t, "an end", b[at:])
			}
		}
		for at := range len(b) + 1 {
			for _, c := range []byte{0, 1, 0x80, 0xff} {
				wantBroken(t, "one more", slices.Insert(slices.Clone(b), at, c))
			}
		}
		wantBroken(t, "twice", append(slices.Clone(b), b...))
		for _, more := range []int{8, 16, 24} {
			wantBroken(t, "more", append(slices.Clone(b), make([]byte, more)...))
			wantBroken(t, "more ahead", append(make([]byte, more), b...))
		}
	}
}

// P17.2: bytes with a right hash, that are no run's all the same.
func TestSealedButBroken(t *testing.T) {
	for _, l := range [][]api.Pair{
		list(pair(0, 0)), list(pair(0, 1)), list(pair(0, 1), pair(1, 1)), list(pair(1, 1), pair(0, 1)),
		list(pair(3, 1), pair(3, 1)), list(pair(3, 1), pair(3, 2)), list(pair(1, 1), pair(3, 1), pair(3, 1)), list(pair(3, 1), pair(3, 1), pair(4, 1)),
		list(pair(7, 0), pair(3, 9)), list(pair(1<<63, 1), pair(1, 1)), list(pair(1, 1), pair(9, 1), pair(8, 1)), list(pair(256, 1), pair(255, 1)),
	} {
		wantBroken(t, "pairs that are none", bytesOf(l...))
	}
	wantBroken(t, "too many", bytesOf(many(api.MaxRun+1)...))
	wantRun(t, bytesOf(many(api.MaxRun)...), many(api.MaxRun)...)
	two := wide(pair(3, 9), pair(7, 0))
	counts := []uint64{0, 1, 3, 34, 128, api.MaxRun, api.MaxRun + 1, 1 << 31, 1<<31 + 2, 1 << 32, 1<<32 + 2}
	// By sixteen these wrap round, to what is there among others.
	for shift := uint(59); shift < 64; shift++ {
		counts = append(counts, 1<<shift, 1<<shift+2, 1<<shift-1)
	}
	for _, n := range append(counts, 1<<64-1, 1<<64-2) {
		wantBroken(t, "another number", sealed(append(binary.AppendUvarint(nil, n), two...)))
	}
	for _, head := range [][]byte{
		{0x82, 0}, {0x82, 0x80, 0}, {0x82}, {0x80, 0x82}, {0x82, 0x80, 0x80, 0x80, 0x80, 0x80, 0x80, 0x80, 0x80, 0},
		{0x82, 0x80, 0x80, 0x80, 0x80, 0x80, 0x80, 0x80, 0x80, 2}, {0x82, 0x80, 0x80, 0x80, 0x80, 0x80, 0x80, 0x80, 0x80, 0x80, 0}, {},
	} {
		wantBroken(t, "no number", sealed(append(slices.Clone(head), two...)))
	}
	wantBroken(t, "the number alone", []byte{0})
	wantBroken(t, "the hash alone", sealed(nil))
	wantBroken(t, "no hash", append([]byte{2}, two...))
	wantBroken(t, "a part of a pair", sealed(append([]byte{2}, two[:24]...)))
	wantBroken(t, "a pair too many", sealed(append([]byte{1}, two...)))
	right := append([]byte{2}, two...)
	wantRun(t, sealed(right), pair(3, 9), pair(7, 0))
	// A hash with its lowest byte first, and one of the pairs without their number.
	hash := sealed(right)[len(right):]
	slices.Reverse(hash)
	wantBroken(t, "a hash turned round", append(slices.Clone(right), hash...))
	wantBroken(t, "a hash of the pairs alone", append([]byte{2}, sealed(two)...))
}

// P17.2: one byte more, with a hash that is right for all but the last eight bytes, and so for its own first one.
func TestHashOfItsBeginning(t *testing.T) {
	found := 0
	for from := range api.Id(50) {
		ahead := append([]byte{1}, wide(pair(from+1, 0))...)
		for c := range 256 {
			hash := sealed(append(slices.Clone(ahead), byte(c)))[len(ahead)+1:]
			if hash[0] == byte(c) {
				found++
				wantBroken(t, "one more", append(slices.Concat(ahead, hash), 0))
			}
		}
	}
	if found == 0 {
		t.Error("no such hash")
	}
}

// P17.2, P17.5: of any bytes: if they are a run's, Make of what Each tells are these bytes.
func TestAnyBytes(t *testing.T) {
	r := rand.New(rand.NewSource(17))
	right := 0
	for range 20000 {
		l := make([]api.Pair, r.Intn(4))
		for k := range l {
			l[k] = pair(api.Id(r.Intn(5)), api.Id(r.Intn(3)))
		}
		b := bytesOf(l...)
		if r.Intn(3) == 0 {
			b[r.Intn(len(b))] = byte(r.Intn(4))
		}
		n, err := run.Check(b)
		switch err {
		case api.OK:
			right++
			told := slices.Collect(run.Each(b))
			again, err := run.Make(told)
			if err != api.OK || n != len(told) || !bytes.Equal(again, b) {
				t.Fatalf("% x: %d pairs, %v, again % x %d", b, n, told, again, err)
			}
		case api.ErrBroken:
			wantBroken(t, "any bytes", b)
			if again, err := run.Make(l); err == api.OK && bytes.Equal(again, b) {
				t.Fatalf("% x are a run's", b)
			}
		default:
			t.Fatalf("Check(% x): %d", b, err)
		}
	}
	if right < 1000 {
		t.Errorf("%d runs alone", right)
	}
}
