package octet

import "espalier/api"

const (
	hashStart  = 14695981039346656037
	hashFactor = 1099511628211
	hexDigits  = 16 // digits of a number as Hex writes it
)

// Hash answers the hash of b.
func Hash(b []byte) uint64 {
	var h uint64 = hashStart
	for _, c := range b {
		h ^= uint64(c)
		h *= hashFactor
	}
	return h
}

// Hex answers x in sixteen digits, the highest first.
func Hex(x uint64) string {
	var digits [hexDigits]byte
	for i := hexDigits - 1; i >= 0; i-- {
		digits[i] = digit(byte(x & 0xf))
		x >>= 4
	}
	return string(digits[:])
}

// Unhex answers the number that Hex writes as s.
func Unhex(s string) (uint64, api.Errno) {
	if len(s) != hexDigits {
		return 0, api.ErrBroken
	}
	var x uint64
	for i := range len(s) {
		v, ok := digitValue(s[i])
		if !ok {
			return 0, api.ErrBroken
		}
		x <<= 4
		x |= uint64(v)
	}
	return x, api.OK
}

func digit(v byte) byte {
	switch {
	case v < 10:
		return '0' + v
	default:
		return 'a' + (v - 10)
	}
}

// digitValue knows no capitals: each number has one writing.
func digitValue(c byte) (byte, bool) {
	switch {
	case '0' <= c && c <= '9':
		return c - '0', true
	case 'a' <= c && c <= 'f':
		return c - 'a' + 10, true
	}
	return 0, false
}
