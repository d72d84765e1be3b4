package run

import (
	"slices"

	"espalier/api"
	"espalier/octet"
)

const (
	pairSize = 16 // bytes of a pair: two wide forms
	sumSize  = 8  // bytes of the hash at the end
)

// form is the bytes of a run of these pairs, which are right and rise.
func form(l []api.Pair) []byte {
	b := slices.Grow(octet.PutUint(nil, uint64(len(l))), len(l)*pairSize)
	// Laid behind by append, as PutWord copies all that stands ahead.
	put := func(id api.Id) { b = append(b, octet.PutWord(nil, uint64(id))...) }
	for _, p := range l {
		put(p.From)
		put(p.To)
	}
	return octet.PutWord(b, octet.Hash(b))
}

// pairs is the pairs of a run of these bytes.
func pairs(b []byte) ([]api.Pair, api.Errno) {
	r := octet.Read(b)
	n := r.Uint()
	// How many they are is held against what is there ahead of being trusted with memory.
	if r.Err() != api.OK || n > api.MaxRun || r.Left() != int(n)*pairSize+sumSize {
		return nil, api.ErrBroken
	}
	l := make([]api.Pair, n)
	for k := range l {
		l[k] = api.Pair{From: api.Id(r.Word()), To: api.Id(r.Word())}
	}
	if r.Word() != octet.Hash(b[:len(b)-sumSize]) || !rises(l) {
		return nil, api.ErrBroken
	}
	return l, api.OK
}

// rises tells whether the Froms rise, the first one from above 0.
func rises(l []api.Pair) bool {
	var last api.Id
	for _, p := range l {
		if p.From <= last {
			return false
		}
		last = p.From
	}
	return true
}
