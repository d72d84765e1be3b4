package refs

import (
	"iter"
	"maps"
	"slices"

	"espalier/api"
	"espalier/name"
)

// Get: P8.3.
func (r *Refs) Get(name string) (api.Id, api.Errno) {
	if r == nil {
		return 0, api.ErrNil
	}
	id, ok := r.ids[name]
	if !ok {
		return 0, api.ErrNone
	}
	return id, api.OK
}

// All: P8.3.
func (r *Refs) All() iter.Seq2[string, api.Id] {
	return func(yield func(string, api.Id) bool) {
		if r == nil {
			return
		}
		// Whoever is told may set refs meanwhile, which is not to be seen here.
		ids := maps.Clone(r.ids)
		for _, ref := range slices.Sorted(maps.Keys(ids)) {
			if !yield(ref, ids[ref]) {
				return
			}
		}
	}
}

// Under: P8.3.
func (r *Refs) Under(path string) []api.Ref {
	var l []api.Ref
	for ref, id := range r.All() {
		if name.In(ref, path) {
			l = append(l, api.Ref{Name: ref, Id: id})
		}
	}
	return l
}

// Len: P8.3.
func (r *Refs) Len() int {
	if r == nil {
		return 0
	}
	return len(r.ids)
}
