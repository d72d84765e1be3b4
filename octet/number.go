package octet

import "espalier/api"

const (
	groupBits = 7    // bits of a number in a byte of its short form
	goesOn    = 0x80 // what is added to a byte of a short form behind which another one comes
	shortMost = 10   // bytes of the longest short form
	lastMost  = 0x01 // the greatest byte at the last place of the longest short form: 64 bits are nine groups and one bit
	wideSize  = 8    // bytes of a wide form
)

// shortForm answers the number whose short form b begins with, and how many bytes that has.
func shortForm(b []byte) (uint64, int, api.Errno) {
	var x uint64
	for i, c := range b {
		// A group of noughts at the end, or bits beyond the 64th, would be a second form of a number.
		if i == shortMost-1 && c > lastMost || i > 0 && c == 0 {
			return 0, 0, api.ErrBroken
		}
		x |= uint64(c&^goesOn) << (groupBits * i)
		if c < goesOn {
			return x, i + 1, api.OK
		}
	}
	return 0, 0, api.ErrShort
}

func wideForm(b []byte) uint64 {
	var x uint64
	for _, c := range b {
		x <<= 8
		x |= uint64(c)
	}
	return x
}
