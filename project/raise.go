package project

import (
	"slices"

	"espalier/api"
	"espalier/name"
)

// piece is a file, or a folder with all that lies in it, and the names of the path at which it is to stand.
type piece struct {
	names []string
	entry api.Entry
}

func pieceAt(path string, e api.Entry) piece {
	names, _ := name.Split(path)
	return piece{names: names, entry: e}
}

// sorted puts pieces into the order of a tree: what would lie in a piece stands right behind it.
func sorted(pieces []piece) []piece {
	slices.SortFunc(pieces, func(a, b piece) int { return slices.Compare(a.names, b.names) })
	return pieces
}

// clash says whether a file would stand where a folder has to be: at the root, or on the way to another piece.
func clash(pieces []piece) bool {
	for i, p := range pieces {
		if len(p.names) == 0 && !p.entry.Folder {
			return true
		}
		if i > 0 && p.liesIn(pieces[i-1]) {
			return true
		}
	}
	return false
}

func (p piece) liesIn(q piece) bool {
	return len(p.names) >= len(q.names) && slices.Equal(p.names[:len(q.names)], q.names)
}

// raise is the tree of sorted pieces that do not clash, made from below: lay is handed each tree that is made, and answers its id.
func raise(pieces []piece, lay func(api.Object) (api.Id, api.Errno)) (api.Id, api.Errno) {
	var at func(pieces []piece, depth int) (api.Entry, api.Errno)
	at = func(pieces []piece, depth int) (api.Entry, api.Errno) {
		if len(pieces) > 0 && len(pieces[0].names) == depth {
			return pieces[0].entry, api.OK
		}
		var made api.Tree
		for len(pieces) > 0 {
			part := pieces[0].names[depth]
			size := alike(pieces, part, depth)
			e, err := at(pieces[:size], depth+1)
			if err != api.OK {
				return api.Entry{}, err
			}
			e.Name = part
			made.Entries = append(made.Entries, e)
			pieces = pieces[size:]
		}
		id, err := lay(made)
		return api.Entry{Folder: true, Id: id}, err
	}
	root, err := at(pieces, 0)
	return root.Id, err
}

// alike is how many pieces at the beginning have that name there.
func alike(pieces []piece, part string, depth int) int {
	size := 0
	for size < len(pieces) && pieces[size].names[depth] == part {
		size++
	}
	return size
}
