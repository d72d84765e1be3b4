package object_test

import (
	"encoding/binary"
	"math"
	"math/rand"
	"strings"
	"unicode/utf8"

	"espalier/api"
)

// What the chapter's words say, written down a second time, by other means than the package's.

// errorOf is P6.1's first error.
func errorOf(o api.Object) api.Errno {
	var all []api.Errno
	note := func(wrong bool, err api.Errno) {
		if wrong {
			all = append(all, err)
		}
	}
	note(kindOf(o) == api.KindNone, api.ErrObject)
	if blob, ok := o.(api.Blob); ok {
		note(len(blob.Bytes) >= 4097, api.ErrLong)
	}
	if tree, ok := o.(api.Tree); ok {
		note(len(tree.Entries) >= 257, api.ErrLong)
		for k, entry := range tree.Entries {
			note(nameError(entry.Name) != api.OK, nameError(entry.Name))
			note(k > 0 && strings.Compare(tree.Entries[max(k, 1)-1].Name, entry.Name) >= 0, api.ErrOrder)
			note(entry.Id == 0, api.ErrArg)
		}
	}
	if commit, ok := o.(api.Commit); ok {
		note(commit.Tree == 0, api.ErrArg)
		note(len(commit.Parents) >= 9, api.ErrLong)
		for _, id := range commit.Parents {
			note(id == 0, api.ErrArg)
		}
		note(len(commit.Author) >= 65, api.ErrLong)
		note(!rightText(commit.Author), api.ErrRight)
		note(len(commit.Text) >= 1025, api.ErrLong)
		note(!rightText(commit.Text), api.ErrRight)
	}
	for _, err := range all {
		return err
	}
	return api.OK
}

func nameError(text string) api.Errno {
	switch {
	case text == "" || text == "." || text == "..":
		return api.ErrName
	case len(text) > 32:
		return api.ErrLong
	case !utf8.ValidString(text) || strings.Contains(text, "/") || strings.IndexFunc(text, func(r rune) bool { return r < 32 || r == 127 }) >= 0:
		return api.ErrName
	}
	return api.OK
}

func rightText(text string) bool {
	return utf8.ValidString(text) && strings.Count(text, "\x00") == 0
}

func kindOf(o api.Object) int {
	if _, ok := o.(api.Blob); ok {
		return 1
	}
	if _, ok := o.(api.Tree); ok {
		return 2
	}
	if _, ok := o.(api.Commit); ok {
		return 3
	}
	return 0
}

// bytesOf is the bytes of an object that may be.
func bytesOf(o api.Object) []byte {
	text := func(b []byte, s string) []byte { return append(binary.AppendUvarint(b, uint64(len(s))), s...) }
	switch o := o.(type) {
	case api.Blob:
		return append([]byte("b"), o.Bytes...)
	case api.Tree:
		b := binary.AppendUvarint([]byte("t"), uint64(len(o.Entries)))
		for _, entry := range o.Entries {
			b = text(b, entry.Name)
			if entry.Folder {
				b = append(b, 1)
			} else {
				b = append(b, 0)
			}
			b = binary.BigEndian.AppendUint64(b, uint64(entry.Id))
		}
		return b
	case api.Commit:
		b := binary.BigEndian.AppendUint64([]byte("c"), uint64(o.Tree))
		b = binary.AppendUvarint(b, uint64(len(o.Parents)))
		for _, id := range o.Parents {
			b = binary.BigEndian.AppendUint64(b, uint64(id))
		}
		b = text(b, o.Author)
		b = binary.BigEndian.AppendUint64(b, uint64(o.Date))
		return text(b, o.Text)
	}
	return nil
}

// linksOf is the ids to which an object that may be leads.
func linksOf(o api.Object) []api.Id {
	var ids []api.Id
	if tree, ok := o.(api.Tree); ok {
		for _, entry := range tree.Entries {
			ids = append(ids, entry.Id)
		}
	}
	if commit, ok := o.(api.Commit); ok {
		ids = append([]api.Id{commit.Tree}, commit.Parents...)
	}
	return ids
}

// equal says whether two objects have one type and the same fields; lists that are nil and empty are one.
func equal(a, b api.Object) bool {
	if kindOf(a) != kindOf(b) || kindOf(a) == 0 {
		return false
	}
	switch a := a.(type) {
	case api.Blob:
		return string(a.Bytes) == string(b.(api.Blob).Bytes)
	case api.Tree:
		return equalLists(a.Entries, b.(api.Tree).Entries)
	}
	one, two := a.(api.Commit), b.(api.Commit)
	return one.Tree == two.Tree && equalLists(one.Parents, two.Parents) && one.Author == two.Author && one.Date == two.Date && one.Text == two.Text
}

func equalLists[T comparable](a, b []T) bool {
	if len(a) != len(b) {
		return false
	}
	for k := range a {
		if a[k] != b[k] {
			return false
		}
	}
	return true
}

// pick answers one of some.
func pick[T any](r *rand.Rand, some ...T) T { return some[r.Intn(len(some))] }

// randomObject is an object that may be, or, at times, one with a few wrong things in it.
func randomObject(r *rand.Rand, wrong bool) api.Object {
	switch r.Intn(4) {
	case 0:
		size := r.Intn(20)
		if wrong {
			size = pick(r, 4095, 4096, 4097, 5000)
		}
		blob := make([]byte, size)
		r.Read(blob)
		return api.Blob{Bytes: blob}
	case 1:
		return randomCommit(r, wrong)
	}
	return randomTree(r, wrong)
}

func randomTree(r *rand.Rand, wrong bool) api.Tree {
	var tree api.Tree
	name := ""
	for range pick(r, 0, 1, 2, 3, 10) {
		name = pick(r, name+"a", name+"é", name+"\ufffd", "b"+name, "z")
		if r.Intn(4) > 0 && len(tree.Entries) > 0 {
			name = tree.Entries[len(tree.Entries)-1].Name + pick(r, "a", "b", ".", "\U0010ffff")
		}
		if wrong && r.Intn(4) == 0 {
			name = pick(r, "", ".", "..", "a/b", "a\xff", "a\x00", "a\x1f", "\x7f", strings.Repeat("x", 32), strings.Repeat("x", 33), "\xed\xa0\x80", "a")
		}
		id := pick(r, api.Id(1), 2, 255, 256, math.MaxUint64, api.Id(r.Uint64()|1))
		if wrong && r.Intn(4) == 0 {
			id = 0
		}
		tree.Entries = append(tree.Entries, api.Entry{Name: name, Folder: r.Intn(2) == 0, Id: id})
	}
	if wrong {
		return tree
	}
	for errorOf(tree) != api.OK {
		tree.Entries = tree.Entries[:len(tree.Entries)-1]
	}
	return tree
}

func randomCommit(r *rand.Rand, wrong bool) api.Commit {
	texts := []string{"", "a", "é", "a\nb", "\ufffd", "\u0001\u007f", "\U0010ffff", "\"x\" # y"}
	parents := []int{0, 1, 2, 8}
	ids := []api.Id{1, 1, 255, 256, math.MaxUint64, api.Id(r.Uint64() | 1)}
	authors, why := append(texts, strings.Repeat("a", 64)), append(texts, strings.Repeat("é", 512), strings.Repeat("a", 127), strings.Repeat("a", 128))
	if wrong {
		texts = []string{"\xff", "a\x00", "\x00", "\xe2\x82", "\ufffd\xbd"}
		parents = append(parents, 9, 10)
		ids = append(ids, 0)
		authors = append(authors, append(texts, strings.Repeat("\xff", 64), strings.Repeat("\xff", 65), strings.Repeat("a", 65))...)
		why = append(why, append(texts, strings.Repeat("\x00", 1024), strings.Repeat("\x00", 1025), strings.Repeat("a", 1025))...)
	}
	commit := api.Commit{Tree: pick(r, ids...), Author: pick(r, authors...), Text: pick(r, why...)}
	commit.Date = pick(r, 0, 1, -1, math.MaxInt64, math.MinInt64, r.Int63())
	for range pick(r, parents...) {
		commit.Parents = append(commit.Parents, pick(r, ids...))
	}
	return commit
}
