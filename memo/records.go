package memo

import (
	"slices"

	"espalier/api"
	"espalier/octet"
)

// greatest is the greatest number that a record may say.
const greatest = 1 << 31

// encode is the record by which the runs of these numbers count.
func encode(runs ...int) []byte {
	b := octet.PutUint(nil, uint64(len(runs)))
	for _, n := range runs {
		b = octet.PutUint(b, uint64(n))
	}
	return b
}

// decode is the numbers that a record says, and whether it is one.
func decode(record []byte) ([]int, bool) {
	in := octet.Read(record)
	count := in.Uint()
	if count > api.MaxRuns {
		return nil, false
	}
	var runs []int
	for range count {
		n := in.Uint()
		if n == 0 || n > greatest || slices.Contains(runs, int(n)) {
			return nil, false
		}
		runs = append(runs, int(n))
	}
	if in.End() != api.OK {
		return nil, false
	}
	return runs, true
}

// readRecords finds which runs count; it tells whether the last record is one. Of those ahead of it one that is none says no number.
func (m *Memo) readRecords() bool {
	sound := true
	for _, record := range m.journal.Each() {
		m.runs, sound = decode(record)
		for _, n := range m.runs {
			m.top = max(m.top, n)
		}
	}
	return sound
}
