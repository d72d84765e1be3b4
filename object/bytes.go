package object

import (
	"espalier/api"
	"espalier/octet"
)

// The first byte of an object's bytes says of which kind it is.
const (
	blobMark   = 'b'
	treeMark   = 't'
	commitMark = 'c'
)

// What stands between an entry's name and its id.
const (
	fileMark   = 0
	folderMark = 1
)

// Encode: P6.2.
func Encode(o api.Object) ([]byte, api.Errno) {
	if err := check(o); err != api.OK {
		return nil, err
	}
	return encode(o), api.OK
}

// Decode: P6.2.
func Decode(b []byte) (api.Object, api.Errno) {
	o := decode(b)
	if check(o) != api.OK {
		return nil, api.ErrBroken
	}
	return o, api.OK
}

// putter takes the bytes that come next.
type putter func(more ...byte)

func (put putter) count(n int)      { put(octet.PutUint(nil, uint64(n))...) }
func (put putter) word(x uint64)    { put(octet.PutWord(nil, x)...) }
func (put putter) text(text string) { put(octet.PutText(nil, text)...) }

// encode answers the bytes of an object that may be.
func encode(o api.Object) []byte {
	var out []byte
	put := putter(func(more ...byte) { out = append(out, more...) })
	switch o := o.(type) {
	case api.Blob:
		put(blobMark)
		put(o.Bytes...)
	case api.Tree:
		put(treeMark)
		putTree(put, o)
	case api.Commit:
		put(commitMark)
		putCommit(put, o)
	}
	return out
}

func putTree(put putter, tree api.Tree) {
	put.count(len(tree.Entries))
	for _, entry := range tree.Entries {
		put.text(entry.Name)
		put(entryMark(entry.Folder))
		put.word(uint64(entry.Id))
	}
}

func entryMark(folder bool) byte {
	if folder {
		return folderMark
	}
	return fileMark
}

func putCommit(put putter, commit api.Commit) {
	put.word(uint64(commit.Tree))
	put.count(len(commit.Parents))
	for _, id := range commit.Parents {
		put.word(uint64(id))
	}
	put.text(commit.Author)
	put.word(uint64(commit.Date))
	put.text(commit.Text)
}

// decode answers nil of bytes that have the form of no object; whether the one that it answers may be is still to be asked.
func decode(b []byte) api.Object {
	r := octet.Read(b)
	var o api.Object
	switch r.Byte() {
	case blobMark:
		o = api.Blob{Bytes: r.Raw(r.Left())}
	case treeMark:
		o = readTree(r)
	case commitMark:
		o = readCommit(r)
	}
	if r.End() != api.OK {
		return nil
	}
	return o
}

// readTree believes no count: it goes on only while there are bytes.
func readTree(r *octet.Reader) api.Object {
	var tree api.Tree
	for left := r.Uint(); left > 0; left-- {
		entry, ok := readEntry(r)
		if !ok {
			return nil
		}
		tree.Entries = append(tree.Entries, entry)
	}
	return tree
}

func readEntry(r *octet.Reader) (api.Entry, bool) {
	text := r.Text(api.MaxName)
	mark := r.Byte()
	id := r.Word()
	if r.Err() != api.OK || mark > folderMark {
		return api.Entry{}, false
	}
	return api.Entry{Name: text, Folder: mark == folderMark, Id: api.Id(id)}, true
}

func readCommit(r *octet.Reader) api.Object {
	var commit api.Commit
	commit.Tree = api.Id(r.Word())
	for left := r.Uint(); left > 0 && r.Err() == api.OK; left-- {
		commit.Parents = append(commit.Parents, api.Id(r.Word()))
	}
	commit.Author = r.Text(api.MaxAuthor)
	commit.Date = int64(r.Word())
	commit.Text = r.Text(api.MaxText)
	return commit
}
