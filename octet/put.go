// Package octet is layer 1: numbers and texts as bytes, one behind the other, and read again; the hash of bytes.
package octet

// PutUint answers the bytes of b, and behind them the short form of x.
func PutUint(b []byte, x uint64) []byte {
	return appendShort(withRoom(b, shortSize(x)), x)
}

// PutWord answers the bytes of b, and behind them the wide form of x.
func PutWord(b []byte, x uint64) []byte {
	out := withRoom(b, wideSize)
	for shift := 8 * (wideSize - 1); shift >= 0; shift -= 8 {
		out = append(out, byte(x>>shift))
	}
	return out
}

// PutText answers the bytes of b, and behind them the form of s.
func PutText(b []byte, s string) []byte {
	size := uint64(len(s))
	out := appendShort(withRoom(b, shortSize(size)+len(s)), size)
	return append(out, s...)
}

// withRoom copies b, so that what is appended never gets into the room behind the end of the caller's list.
func withRoom(b []byte, more int) []byte {
	out := make([]byte, len(b), len(b)+more)
	copy(out, b)
	return out
}

func shortSize(x uint64) int {
	n := 1
	for x >>= groupBits; x > 0; x >>= groupBits {
		n++
	}
	return n
}

func appendShort(b []byte, x uint64) []byte {
	for ; x >= goesOn; x >>= groupBits {
		b = append(b, byte(x)|goesOn)
	}
	return append(b, byte(x))
}
