package project

import (
	"iter"

	"espalier/api"
	"espalier/name"
	"espalier/pathmap"
	"espalier/store"
)

// view is the sound trees of a store as rules see them. A folder in which other rules lie is divided; of any other one a single rule says all: whether what lies in it is let through, and where to.
type view struct {
	store   *store.Store
	rules   *pathmap.Map
	divided map[string]struct{}
}

// viewOf sees trees by the rules themselves.
func viewOf(s *store.Store, m *pathmap.Map) view {
	return view{store: s, rules: m, divided: above(m)}
}

// viewBack sees trees by the way back. That leaves out what is too long to be a rule there, but which still says something of what a folder goes back to: so what goes back to a divided folder is divided, too.
func viewBack(s *store.Store, m *pathmap.Map) view {
	back := view{store: s, rules: m.Inverse()}
	back.divided = above(back.rules)
	for path := range above(m) {
		if image, err := m.Image(path); err == api.OK {
			back.divided[image] = struct{}{}
		}
	}
	return back
}

// above is the paths in which a rule's From lies that is another one. They are worked out once, and not asked of the rules at each folder, as there may be many.
func above(m *pathmap.Map) map[string]struct{} {
	paths := map[string]struct{}{}
	for _, r := range m.Rules() {
		for path := r.From; path != ""; {
			path, _, _ = name.Dir(path)
			paths[path] = struct{}{}
		}
	}
	return paths
}

// lets says whether a path has an image, however long.
func (v view) lets(path string) bool {
	_, err := v.rules.Image(path)
	return err != api.ErrNone
}

// parts tells of what a tree consists for the rules, in its order: files, and folders that are not divided. Of the empty tree there is nothing to tell; any other folder has a file in it.
func (v view) parts(id api.Id) iter.Seq2[string, api.Entry] {
	return func(yield func(string, api.Entry) bool) {
		if len(entries(v.store, id)) == 0 {
			return
		}
		var visit func(path string, e api.Entry) bool
		visit = func(path string, e api.Entry) bool {
			if _, inner := v.divided[path]; !e.Folder || !inner {
				return yield(path, e)
			}
			for _, inner := range entries(v.store, e.Id) {
				longer, _ := name.Join(path, inner.Name)
				if !visit(longer, inner) {
					return false
				}
			}
			return true
		}
		visit("", api.Entry{Folder: true, Id: id})
	}
}

// letsAll says whether all files of a tree have images.
func (v view) letsAll(id api.Id) bool {
	for path := range v.parts(id) {
		if !v.lets(path) {
			return false
		}
	}
	return true
}

// spot is a tree, or a blob, and the path at which it stands.
type spot struct {
	id   api.Id
	path string
}

// landing is where a spot comes to stand: at its image, or at what is too long for a path (ErrLong).
type landing struct {
	folder bool
	image  string
	err    api.Errno
}

// projected is the parts of a tree that have images, and these. As all trees are divided alike, and no part is without files, two trees have the same of them just if they have the same files with images.
func (v view) projected(id api.Id) map[spot]landing {
	through := map[spot]landing{}
	for path, e := range v.parts(id) {
		image, err := v.rules.Image(path)
		if err != api.ErrNone {
			through[spot{e.Id, path}] = landing{e.Folder, image, err}
		}
	}
	return through
}

// images is the parts of a tree that have images, at these.
func (v view) images(id api.Id) ([]piece, api.Errno) {
	of := spans(v.store)
	var pieces []piece
	for at, to := range v.projected(id) {
		if to.err != api.OK || to.folder && !of(at.id).allFit(to.image) {
			return nil, api.ErrLong
		}
		pieces = append(pieces, pieceAt(to.image, api.Entry{Folder: to.folder, Id: at.id}))
	}
	return sorted(pieces), api.OK
}

// outside is the parts of a tree that have no images, as they stand.
func (v view) outside(id api.Id) []piece {
	var pieces []piece
	for path, e := range v.parts(id) {
		if !v.lets(path) {
			pieces = append(pieces, pieceAt(path, e))
		}
	}
	return pieces
}
