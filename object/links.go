package object

import (
	"bytes"
	"slices"

	"espalier/api"
)

// Links: P6.4.
func Links(o api.Object) []api.Id {
	if check(o) != api.OK {
		return nil
	}
	return links(o)
}

// Copy: P6.4.
func Copy(o api.Object) api.Object { return fresh(o) }

func links(o api.Object) []api.Id {
	var ids []api.Id
	switch o := o.(type) {
	case api.Tree:
		for _, entry := range o.Entries {
			ids = append(ids, entry.Id)
		}
	case api.Commit:
		ids = append(ids, o.Tree)
		ids = append(ids, o.Parents...)
	}
	return ids
}

func fresh(o api.Object) api.Object {
	switch o := o.(type) {
	case api.Blob:
		o.Bytes = bytes.Clone(o.Bytes)
		return o
	case api.Tree:
		o.Entries = slices.Clone(o.Entries)
		return o
	case api.Commit:
		o.Parents = slices.Clone(o.Parents)
		return o
	}
	return nil
}
