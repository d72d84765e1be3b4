package carve_test

import (
	"encoding/binary"
	"hash/fnv"
	"slices"
	"strconv"
	"testing"

	"espalier/api"
	"espalier/carve"
	"espalier/disk"
	"espalier/graph"
	"espalier/memo"
	"espalier/object"
	"espalier/pathmap"
	"espalier/refs"
	"espalier/store"
	"espalier/tree"
)

// missing is an id that no store of these tests has.
const missing api.Id = 7

func keep(from string) api.Rule     { return api.Rule{Kind: api.KeepRule, From: from} }
func drop(from string) api.Rule     { return api.Rule{Kind: api.DropRule, From: from} }
func move(from, to string) api.Rule { return api.Rule{Kind: api.MoveRule, From: from, To: to} }

func ref(name string, id api.Id) api.Ref { return api.Ref{Name: name, Id: id} }
func pair(from, to api.Id) api.Pair      { return api.Pair{From: from, To: to} }

// files is the files of a tree, told as paths and what stands there.
type files []string

// mapOf is the Map of rules that may be.
func mapOf(t *testing.T, rules ...api.Rule) *pathmap.Map {
	t.Helper()
	m, fault := pathmap.New(rules)
	if fault != (api.Fault{}) {
		t.Fatalf("New(%v): %v", rules, fault)
	}
	return m
}

func open(t *testing.T, d *disk.Disk) *carve.Carver {
	t.Helper()
	c, err := carve.Open(d)
	if c == nil || err != api.OK {
		t.Fatalf("Open: %v %d", c, err)
	}
	return c
}

// onDisk is a new disk, and a Carver of it.
func onDisk(t *testing.T) (*carve.Carver, *disk.Disk) {
	t.Helper()
	d := disk.New()
	return open(t, d), d
}

// put puts in an object that has to go in.
func put(t *testing.T, s *store.Store, o api.Object) api.Id {
	t.Helper()
	id, err := s.Put(o)
	if err != api.OK {
		t.Fatalf("Put(%#v): %d", o, err)
	}
	return id
}

// idOf is the id of an object that may be.
func idOf(o api.Object) api.Id {
	id, err := object.Of(o)
	if err != api.OK {
		panic("an object that may not be")
	}
	return id
}

// made is the tree of files.
func made(t *testing.T, s *store.Store, told ...string) api.Id {
	t.Helper()
	var list []api.File
	for k := 0; k < len(told); k += 2 {
		list = append(list, api.File{Path: told[k], Blob: put(t, s, api.Blob{Bytes: []byte(told[k+1])})})
	}
	id, err := tree.Of(s, list)
	if err != api.OK {
		t.Fatalf("Of(%v): %d", told, err)
	}
	return id
}

// commitOf is a commit that is told apart by a text.
func commitOf(text string, tree api.Id, parents ...api.Id) api.Commit {
	return api.Commit{Tree: tree, Parents: parents, Author: "by " + text, Date: -int64(len(text)), Text: text}
}

// commit puts in a commit of files.
func commit(t *testing.T, s *store.Store, text string, f files, parents ...api.Id) api.Id {
	t.Helper()
	return put(t, s, commitOf(text, made(t, s, f...), parents...))
}

// host is the history of chapter 16's section 'Examples', and what its own commits have to be by the rule keep a.
type host struct {
	one, two, three, four, five, six api.Id
	a, b                             api.Id
}

func chapter(t *testing.T, s *store.Store) host {
	t.Helper()
	var h host
	h.one = commit(t, s, "1", files{"b", "1"})
	h.two = commit(t, s, "2", files{"b", "1", "a/x", "1"}, h.one)
	h.three = commit(t, s, "3", files{"b", "2", "a/x", "1"}, h.two)
	h.four = commit(t, s, "4", files{"a/x", "2"}, h.two)
	h.five = commit(t, s, "5", files{"a/x", "2"}, h.three, h.four)
	h.six = commit(t, s, "6", files{"a/x", "2"}, h.four, h.three)
	h.a = idOf(commitOf("2", made(t, s, "a/x", "1")))
	h.b = idOf(commitOf("4", made(t, s, "a/x", "2"), h.a))
	return h
}

// chapterDisk is a disk with the chapter's history, the ref host leading to 5, and a Carver of it.
func chapterDisk(t *testing.T) (*carve.Carver, *disk.Disk, host) {
	t.Helper()
	c, d := onDisk(t)
	h := chapter(t, c.Store())
	set(t, c, ref("host", h.five))
	return c, d, h
}

// set sets refs that have to be set.
func set(t *testing.T, c *carve.Carver, l ...api.Ref) {
	t.Helper()
	if err := c.Refs().Set(l...); err != api.OK {
		t.Fatalf("Set(%v): %d", l, err)
	}
}

// wantRef wants a ref to lead to an id; nowhere, if that is 0.
func wantRef(t *testing.T, c *carve.Carver, name string, asked api.Id) {
	t.Helper()
	askedErr := api.OK
	if asked == 0 {
		askedErr = api.ErrNone
	}
	if id, err := c.Refs().Get(name); id != asked || err != askedErr {
		t.Errorf("%s leads to %x (%d), not %x", name, id, err, asked)
	}
}

// wantCarved wants a call to answer just that.
func wantCarved(t *testing.T, what string, head api.Id, fresh, kept, projected int) func(api.Carved, api.Errno) {
	t.Helper()
	asked := api.Carved{Head: head, New: fresh, Kept: kept, Projected: projected}
	return func(told api.Carved, err api.Errno) {
		t.Helper()
		if told != asked || err != api.OK {
			t.Errorf("%s: %+v %d, not %+v", what, told, err, asked)
		}
	}
}

// wantNone wants a call to answer an error, and nothing beside it.
func wantNone(t *testing.T, what string, asked api.Errno) func(api.Carved, api.Errno) {
	t.Helper()
	return func(told api.Carved, err api.Errno) {
		t.Helper()
		if told != (api.Carved{}) || err != asked {
			t.Errorf("%s: %+v %d, not error %d", what, told, err, asked)
		}
	}
}

// wantNoMemo wants Memo to answer an error, and no Memo.
func wantNoMemo(t *testing.T, what string, c *carve.Carver, m *pathmap.Map, asked api.Errno) {
	t.Helper()
	if known, err := c.Memo(m); known != nil || err != asked {
		t.Errorf("%s: %v %d, not error %d", what, known, err, asked)
	}
}

// memoOf is a Map's memo, which has to be there.
func memoOf(t *testing.T, c *carve.Carver, m *pathmap.Map) *memo.Memo {
	t.Helper()
	known, err := c.Memo(m)
	if known == nil || err != api.OK {
		t.Fatalf("Memo: %v %d", known, err)
	}
	return known
}

// wantPairs wants a Map's memo to have just these pairs, handed in in any order.
func wantPairs(t *testing.T, c *carve.Carver, m *pathmap.Map, asked ...api.Pair) {
	t.Helper()
	asked = slices.SortedFunc(slices.Values(asked), func(p, q api.Pair) int {
		if p.From < q.From {
			return -1
		}
		return 1
	})
	if l := slices.Collect(memoOf(t, c, m).Each()); !slices.Equal(l, asked) {
		t.Errorf("the memo has %x, not %x", l, asked)
	}
}

// wantWrites wants a disk to have done so many raw writes.
func wantWrites(t *testing.T, what string, d *disk.Disk, asked int) {
	t.Helper()
	if writes := d.Writes(); writes != asked {
		t.Errorf("%s: %d raw writes, not %d", what, writes, asked)
	}
}

// recordOf is a journal's record with that payload, by another reckoning than the program's.
func recordOf(payload string) []byte {
	hash := fnv.New64a()
	hash.Write([]byte(payload))
	b := append(binary.AppendUvarint(nil, uint64(len(payload))), payload...)
	return binary.BigEndian.AppendUint64(b, hash.Sum64())
}

// keyOf is the key of a text, by another reckoning than the program's.
func keyOf(text string) api.Id {
	hash := fnv.New64a()
	hash.Write([]byte(text))
	return api.Id(hash.Sum64())
}

// hexOf is a key as files' names have it.
func hexOf(key api.Id) string {
	digits := strconv.FormatUint(uint64(key), 16)
	return "0000000000000000"[len(digits):] + digits
}

// rulesOf is the name of the rules' file of a text.
func rulesOf(text string) string { return "rules-" + hexOf(keyOf(text)) }

// memoFile is the name of the memo's journal of a text.
func memoFile(text string) string { return "memo-" + hexOf(keyOf(text)) }

// lay lays a file of these parts on a disk.
func lay(t *testing.T, d *disk.Disk, name string, parts ...[]byte) {
	t.Helper()
	if err := d.Append(name, slices.Concat(parts...)); err != api.OK {
		t.Fatalf("Append(%s): %d", name, err)
	}
}

func wantFile(t *testing.T, d *disk.Disk, name string, parts ...[]byte) {
	t.Helper()
	b, err := d.Read(name)
	if asked := slices.Concat(parts...); err != api.OK || !slices.Equal(b, asked) {
		t.Errorf("%s: %.200x %d, not %.200x", name, b, err, asked)
	}
}

// wantSameFiles wants two disks to have the same files.
func wantSameFiles(t *testing.T, what string, d, asked *disk.Disk) {
	t.Helper()
	if names := d.Names(); !slices.Equal(names, asked.Names()) {
		t.Errorf("%s: files %v, not %v", what, names, asked.Names())
	}
	for _, name := range asked.Names() {
		b, _ := asked.Read(name)
		wantFile(t, d, name, b)
	}
}

// P19.1: a new disk; what is opened there is what the disk has, and the same each time.
func TestOpen(t *testing.T) {
	d := disk.New()
	d.Cut(0)
	c := open(t, d)
	wantWrites(t, "Open", d, 0)
	d.Mend()
	if c.Disk() != d {
		t.Error("another disk")
	}
	s, r := c.Store(), c.Refs()
	if s == nil || r == nil || s.Len() != 0 || r.Len() != 0 {
		t.Fatalf("%v %v", s, r)
	}
	id := commit(t, s, "1", files{"b", "1"})
	set(t, c, ref("host", id))
	c.Carve(pathmap.Trivial(), "host", "side")
	if c.Disk() != d || c.Store() != s || c.Refs() != r {
		t.Error("other ones")
	}

	again := open(t, d)
	if !again.Store().Has(id) || again.Store().Len() != s.Len() {
		t.Error("not the disk's store")
	}
	wantRef(t, again, "host", id)
	wantRef(t, again, "side", id)
	if again.Store() == s || again.Refs() == r || again.Disk() != d {
		t.Error("not opened again")
	}
}

// P19.1, R4: a nil disk, a nil Carver.
func TestNil(t *testing.T) {
	if c, err := carve.Open(nil); c != nil || err != api.ErrNil {
		t.Errorf("Open: %v %d", c, err)
	}
	var c *carve.Carver
	if d, s, r := c.Disk(), c.Store(), c.Refs(); d != nil || s != nil || r != nil {
		t.Errorf("%v %v %v", d, s, r)
	}
	m := mapOf(t, keep("a"))
	wantNoMemo(t, "a nil Carver", c, m, api.ErrNil)
	wantNoMemo(t, "nil both", c, nil, api.ErrNil)
	wantNone(t, "a nil Carver", api.ErrNil)(c.Head(m, 0))
	wantNone(t, "nil both", api.ErrNil)(c.Head(nil, missing))
	wantNone(t, "a nil Carver", api.ErrNil)(c.Carve(m, "host", "side"))
	wantNone(t, "nil both", api.ErrNil)(c.Carve(nil, "", ""))

	c, d, h := chapterDisk(t)
	before := d.Copy()
	wantNoMemo(t, "a nil Map", c, nil, api.ErrNil)
	wantNone(t, "a nil Map", api.ErrNil)(c.Head(nil, h.five))
	wantNone(t, "a nil Map, nothing there", api.ErrNil)(c.Head(nil, missing))
	wantNone(t, "a nil Map", api.ErrNil)(c.Carve(nil, "host", "side"))
	wantNone(t, "a nil Map, no host", api.ErrNil)(c.Carve(nil, "none", "a//b"))
	wantNone(t, "a nil Map, one name", api.ErrNil)(c.Carve(nil, "host", "host"))
	wantSameFiles(t, "nil Maps", d, before)
}

// wantNoCarver wants Open to answer an error, and no Carver.
func wantNoCarver(t *testing.T, what string, d *disk.Disk, asked api.Errno) {
	t.Helper()
	if c, err := carve.Open(d); c != nil || err != asked {
		t.Errorf("%s: %v %d, not error %d", what, c, err, asked)
	}
}

// P19.1: store.Open's error goes ahead of refs.Open's; what a cut left of a record is taken away.
func TestOpenErrors(t *testing.T) {
	wrong, part := []byte{0x80, 0}, []byte{5, 1}
	for _, c := range []struct {
		what          string
		objects, refs []byte
		cut           int
		asked         api.Errno
	}{
		{"broken objects", wrong, nil, 9, api.ErrBroken},
		{"a record that is no object", recordOf("no object"), nil, 9, api.ErrBroken},
		{"broken refs", nil, wrong, 9, api.ErrBroken},
		{"a record that is no ref's", nil, recordOf("no ref"), 9, api.ErrBroken},
		{"broken objects, a part of a ref, cut", wrong, part, 0, api.ErrBroken},
		{"a part of an object, broken refs, cut", part, wrong, 0, api.ErrCut},
		{"a part of an object, broken refs", part, wrong, 1, api.ErrBroken},
		{"a part of both, cut", part, part, 0, api.ErrCut},
		{"a part of both, cut between", part, part, 1, api.ErrCut},
		{"a part of a ref, cut", nil, part, 0, api.ErrCut},
	} {
		d := disk.New()
		lay(t, d, "objects", c.objects)
		lay(t, d, "refs", c.refs)
		d.Cut(c.cut)
		wantNoCarver(t, c.what, d, c.asked)
	}
	d := disk.New()
	lay(t, d, "objects", part)
	lay(t, d, "refs", part)
	d.Cut(2)
	open(t, d)
	wantFile(t, d, "objects")
	wantFile(t, d, "refs")
	open(t, d)
}

// P19.1: a store with more objects than there may be, ahead of broken refs.
func TestOpenTooManyObjects(t *testing.T) {
	d := disk.New()
	var all [][]byte
	for k := range api.MaxObjects + 1 {
		b, err := object.Encode(api.Blob{Bytes: binary.AppendUvarint(nil, uint64(k))})
		if err != api.OK {
			t.Fatal(err)
		}
		all = append(all, recordOf(string(b)))
	}
	lay(t, d, "objects", all...)
	lay(t, d, "refs", []byte{0x80, 0})
	wantNoCarver(t, "too many objects", d, api.ErrLong)
}

// P19.3 to P19.5: the chapter's section 'Examples', row by row.
func TestExamples(t *testing.T) {
	c, d, h := chapterDisk(t)
	m := mapOf(t, keep("a"))
	wantCarved(t, "the first one", h.b, 5, 2, 5)(c.Carve(m, "host", "side"))
	wantRef(t, c, "side", h.b)
	wantPairs(t, c, m, pair(h.one, 0), pair(h.two, h.a), pair(h.three, h.a), pair(h.four, h.b), pair(h.five, h.b))

	wantCarved(t, "once more", h.b, 0, 0, 0)(c.Carve(m, "host", "side"))
	set(t, c, ref("host", h.six))
	wantCarved(t, "6", h.b, 1, 0, 1)(c.Carve(m, "host", "side"))
	wantRef(t, c, "side", h.b)
	set(t, c, ref("host", h.one))
	wantCarved(t, "1", 0, 0, 0, 0)(c.Carve(m, "host", "side"))
	wantRef(t, c, "side", 0)

	wantNone(t, "into itself", api.ErrArg)(c.Carve(m, "host", "host"))
	wantNone(t, "no host", api.ErrNone)(c.Carve(m, "none", "side"))
	wantNone(t, "no Map", api.ErrNil)(c.Carve(nil, "host", "side"))
	wantTexts(t, "keep a", d, "keep a\n")
	wantRef(t, c, "host", h.one)
	wantPairs(t, c, m, pair(h.one, 0), pair(h.two, h.a), pair(h.three, h.a), pair(h.four, h.b), pair(h.five, h.b), pair(h.six, h.b))
}

// Examples 6, 7 and 10 of the whole: carved anew, once more, with one commit more; cut anywhere.
func TestExamplesOfTheWhole(t *testing.T) {
	c, d, h := chapterDisk(t)
	m := mapOf(t, keep("a"))
	whole := d.Copy()
	wantCarved(t, "the first one", h.b, 5, 2, 5)(c.Carve(m, "host", "side"))
	wantCarved(t, "once more", h.b, 0, 0, 0)(c.Carve(m, "host", "side"))
	next := commit(t, c.Store(), "7", files{"a/x", "3", "b", "1"}, h.five)
	set(t, c, ref("host", next))
	own := idOf(commitOf("7", made(t, c.Store(), "a/x", "3"), h.b))
	wantCarved(t, "one commit more", own, 1, 1, 1)(c.Carve(m, "host", "side"))
	wantRef(t, c, "side", own)
	if err := graph.Whole(c.Store(), own); err != api.OK {
		t.Errorf("its closure is not whole: %d", err)
	}

	for cut := range writesOf(t, whole, m) {
		d := whole.Copy()
		d.Cut(cut)
		wantNone(t, "cut", api.ErrCut)(open(t, d).Carve(m, "host", "side"))
		d.Mend()
		told, err := open(t, d).Carve(m, "host", "side")
		if told.Head != h.b || err != api.OK {
			t.Errorf("behind a cut at %d: %+v %d", cut, told, err)
		}
	}
}

// writesOf is how many raw writes a carve of host to side does on a copy of a disk.
func writesOf(t *testing.T, d *disk.Disk, m *pathmap.Map) int {
	t.Helper()
	some := d.Copy()
	if _, err := open(t, some).Carve(m, "host", "side"); err != api.OK {
		t.Fatal(err)
	}
	return some.Writes()
}

// wantRefs wants a disk to have just these refs, rising.
func wantRefs(t *testing.T, what string, d *disk.Disk, asked ...api.Ref) {
	t.Helper()
	r, err := refs.Open(d.Copy())
	if err != api.OK {
		t.Fatalf("%s: %d", what, err)
	}
	if l := r.Under(""); !slices.Equal(l, asked) {
		t.Errorf("%s: %x, not %x", what, l, asked)
	}
}
