package change_test

import (
	"slices"
	"strconv"
	"strings"
	"testing"

	"espalier/api"
	"espalier/change"
	"espalier/disk"
	"espalier/object"
	"espalier/store"
	"espalier/tree"
)

func open(t *testing.T) (*store.Store, *disk.Disk) {
	t.Helper()
	d := disk.New()
	return openDisk(t, d), d
}

func openDisk(t *testing.T, d *disk.Disk) *store.Store {
	t.Helper()
	s, err := store.Open(d)
	if err != api.OK {
		t.Fatalf("Open: %d", err)
	}
	return s
}

// keep puts in an object that has to go in.
func keep(t *testing.T, s *store.Store, o api.Object) api.Id {
	t.Helper()
	id, err := s.Put(o)
	if err != api.OK {
		t.Fatalf("Put(%#v): %d", o, err)
	}
	return id
}

func keepBlob(t *testing.T, s *store.Store, text string) api.Id {
	t.Helper()
	return keep(t, s, api.Blob{Bytes: []byte(text)})
}

func keepTree(t *testing.T, s *store.Store, entries ...api.Entry) api.Id {
	t.Helper()
	return keep(t, s, api.Tree{Entries: entries})
}

func file(name string, id api.Id) api.Entry   { return api.Entry{Name: name, Id: id} }
func folder(name string, id api.Id) api.Entry { return api.Entry{Name: name, Folder: true, Id: id} }

// idOf is the id of an object that may be.
func idOf(o api.Object) api.Id {
	id, err := object.Of(o)
	if err != api.OK {
		panic("an object that may not be")
	}
	return id
}

// digit is the id of the blob of a text, whether a store has it or not.
func digit(text string) api.Id {
	return idOf(api.Blob{Bytes: []byte(text)})
}

// missing is an id that no store of these tests has.
const missing api.Id = 7

// made is the tree of files, told as paths and what stands there.
func made(t *testing.T, s *store.Store, told ...string) api.Id {
	t.Helper()
	var files []api.File
	for k := 0; k < len(told); k += 2 {
		files = append(files, api.File{Path: told[k], Blob: keepBlob(t, s, told[k+1])})
	}
	id, err := tree.Of(s, files)
	if err != api.OK {
		t.Fatalf("Of(%v): %d", told, err)
	}
	return id
}

// listed is changes, told as a path, what was there and what is (no text: nothing).
func listed(told ...string) []api.Change {
	var l []api.Change
	for k := 0; k < len(told); k += 3 {
		c := api.Change{Path: told[k]}
		if told[k+1] != "" {
			c.Was = digit(told[k+1])
		}
		if told[k+2] != "" {
			c.Now = digit(told[k+2])
		}
		l = append(l, c)
	}
	return l
}

// each is what Each tells, up to the end.
func each(s *store.Store, a, b api.Id) []api.Change {
	var l []api.Change
	for c := range change.Each(s, a, b) {
		l = append(l, c)
	}
	return l
}

// wantBetween wants Between and Each to tell just these changes.
func wantBetween(t *testing.T, s *store.Store, a, b api.Id, asked []api.Change) {
	t.Helper()
	for _, most := range []int{len(asked), len(asked) + 1, api.MaxChanges} {
		if l, err := change.Between(s, a, b, most); !slices.Equal(l, asked) || err != api.OK {
			t.Errorf("Between, %d at most: %v %d, not %v", most, l, err, asked)
		}
	}
	for most := range len(asked) {
		if l, err := change.Between(s, a, b, most); l != nil || err != api.ErrLong {
			t.Errorf("Between, %d at most: %v %d, not ErrLong", most, l, err)
		}
	}
	if l := each(s, a, b); !slices.Equal(l, asked) {
		t.Errorf("Each: %v, not %v", l, asked)
	}
}

func wantRead(t *testing.T, s *store.Store, a, b api.Id, asked int) {
	t.Helper()
	if n, err := change.Read(s, a, b); n != asked || err != api.OK {
		t.Errorf("Read: %d %d, not %d", n, err, asked)
	}
}

// wantRefused wants Between and Read to answer an error, and Each to tell nothing.
func wantRefused(t *testing.T, s *store.Store, a, b api.Id, asked api.Errno) {
	t.Helper()
	if l, err := change.Between(s, a, b, 9); l != nil || err != asked {
		t.Errorf("Between(%x, %x): %v %d, not %d", a, b, l, err, asked)
	}
	if n, err := change.Read(s, a, b); n != 0 || err != asked {
		t.Errorf("Read(%x, %x): %d %d, not %d", a, b, n, err, asked)
	}
	for c := range change.Each(s, a, b) {
		t.Errorf("Each(%x, %x) told %v", a, b, c)
	}
}

// The rows of the chapter's section Examples.
func TestExamples(t *testing.T) {
	s, _ := open(t)
	one, two := made(t, s, "a/x", "1", "b", "2"), made(t, s, "a/x", "1", "b/c", "3", "d", "4")
	three := listed("b", "2", "", "b/c", "", "3", "d", "", "4")
	wantBetween(t, s, one, two, three)
	wantBetween(t, s, one, one, nil)
	if l, err := change.Between(s, one, two, -1); l != nil || err != api.ErrArg {
		t.Errorf("Between, -1 at most: %v %d", l, err)
	}
	wantRead(t, s, one, two, 3)
	wantRead(t, s, one, one, 0)
	wantFault(t, three, api.OK, 0)
	wantFault(t, listed("b", "2", "5", "b/c", "", "3"), api.ErrClash, 1)
	wantFault(t, listed("d", "", "4", "b", "2", ""), api.ErrArg, 1)
	wantFault(t, listed("a", "1", "1"), api.ErrArg, 0)
	wantApplied(t, s, one, three, two)
	wantNotApplied(t, s, two, three, api.ErrStale)
	wantNotApplied(t, s, one, three[1:2], api.ErrClash)
	wantTurned(t, three[2:], listed("d", "4", ""))
	wantWithin(t, three, "b", three[:2])
	wantJoined(t, three[2:], listed("d", "4", ""), nil)
	wantNotJoined(t, three[2:], listed("d", "3", ""), api.ErrStale, 0)
}

// P10.1: files changed, come and gone, in folders and beside them, by the order of paths.
func TestBetween(t *testing.T) {
	s, _ := open(t)
	none := made(t, s)
	one := made(t, s, "a", "1", "b/x", "1", "b/y", "1", "b.", "1", "c/d/e", "1", "f", "1")
	two := made(t, s, "a", "2", "b/x", "1", "b/z", "1", "b.", "2", "c/d/e", "1", "e/f/g", "1")
	wantBetween(t, s, one, two, listed("a", "1", "2", "b/y", "1", "", "b/z", "", "1", "b.", "1", "2", "e/f/g", "", "1", "f", "1", ""))
	wantBetween(t, s, two, one, listed("a", "2", "1", "b/y", "", "1", "b/z", "1", "", "b.", "2", "1", "e/f/g", "1", "", "f", "", "1"))
	wantBetween(t, s, none, one, listed("a", "", "1", "b/x", "", "1", "b/y", "", "1", "b.", "", "1", "c/d/e", "", "1", "f", "", "1"))
	wantBetween(t, s, one, none, listed("a", "1", "", "b/x", "1", "", "b/y", "1", "", "b.", "1", "", "c/d/e", "1", "", "f", "1", ""))
	wantBetween(t, s, none, none, nil)
	wantRead(t, s, one, two, 6)
	wantRead(t, s, none, one, 5)
	wantRead(t, s, one, none, 5)
	wantRead(t, s, none, none, 0)
}

// P10.1: a file where a folder stands on the other side, either way, and deeper.
func TestBetweenFileAndFolder(t *testing.T) {
	s, _ := open(t)
	one := made(t, s, "a", "1", "b/c/d", "1", "b/e", "2", "x/y", "1")
	two := made(t, s, "a/b/c", "1", "b", "2", "x/y/z", "1")
	wantBetween(t, s, one, two, listed("a", "1", "", "a/b/c", "", "1", "b", "", "2", "b/c/d", "1", "", "b/e", "2", "", "x/y", "1", "", "x/y/z", "", "1"))
	wantBetween(t, s, two, one, listed("a", "", "1", "a/b/c", "1", "", "b", "2", "", "b/c/d", "", "1", "b/e", "", "2", "x/y", "", "1", "x/y/z", "1", ""))
	wantRead(t, s, one, two, 9)
	wantRead(t, s, two, one, 9)
}

// P10.1: what both share is not read, and a tree that is read at two paths is read twice.
func TestReadShared(t *testing.T) {
	s, _ := open(t)
	one := made(t, s, "a/b/c", "1", "d/b/c", "1", "e/b/c", "1", "f", "1")
	wantRead(t, s, one, made(t, s, "a/b/c", "1", "d/b/c", "1", "e/b/c", "1", "f", "2"), 2)
	wantRead(t, s, one, made(t, s, "a/b/c", "2", "d/b/c", "1", "e/b/c", "1", "f", "1"), 6)
	wantRead(t, s, one, made(t, s, "a/b/c", "2", "d/b/c", "2", "e/b/c", "1", "f", "1"), 10)
	wantRead(t, s, one, made(t, s, "f", "1"), 8)
	// Shared, but not at one path.
	wantRead(t, s, one, made(t, s, "a/b/c", "1", "d/b/c", "1", "f", "1", "g/b/c", "1"), 6)
}

// P10.1: most is from 0 to MaxChanges, which is asked ahead of the trees, and behind the store.
func TestBetweenMost(t *testing.T) {
	s, _ := open(t)
	for _, most := range []int{-1, -1 << 63, api.MaxChanges + 1, 1<<63 - 1} {
		for _, id := range []api.Id{made(t, s), missing} {
			if l, err := change.Between(s, id, id, most); l != nil || err != api.ErrArg {
				t.Errorf("Between, %d at most: %v %d", most, l, err)
			}
		}
		if _, err := change.Between(nil, 1, 1, most); err != api.ErrNil {
			t.Errorf("Between of no store: %d", err)
		}
	}
}

// R4: of a nil store all is refused.
func TestNil(t *testing.T) {
	wantRefused(t, nil, 1, 1, api.ErrNil)
	wantNotApplied(t, nil, 1, nil, api.ErrNil)
	wantNotApplied(t, nil, 1, listed("a", "1", "1"), api.ErrNil)
}

// selfTree puts in a tree that stands in itself: its id is 2.
func selfTree(t *testing.T, s *store.Store) api.Id {
	t.Helper()
	const behind = 0xa7c0d8ee820c7e04
	return keepTree(t, s, file("0", keepBlob(t, s, "1")), folder("a", 2), file("b", behind))
}

// broken is trees that are refused, each in another way.
func broken(t *testing.T, s *store.Store) []api.Id {
	t.Helper()
	blob := keepBlob(t, s, "1")
	deep := blob
	for k := range api.MaxDepth + 1 {
		deep = keepTree(t, s, api.Entry{Name: "x", Folder: k > 0, Id: deep})
	}
	return []api.Id{
		0, missing, blob, keep(t, s, api.Commit{Tree: 1}),
		keepTree(t, s, file("a", missing)), keepTree(t, s, file("a", keepTree(t, s))),
		keepTree(t, s, folder("a", missing)), keepTree(t, s, folder("a", blob)),
		keepTree(t, s, folder("a", keepTree(t, s))), selfTree(t, s), deep,
	}
}

// P10.1: tree.Sound's error of a, then of b, be they one.
func TestBetweenUnsound(t *testing.T) {
	s, _ := open(t)
	right := made(t, s, "a", "1")
	wrong := broken(t, s)
	kinds := map[api.Errno]int{}
	for _, one := range wrong {
		err := tree.Sound(s, one)
		kinds[err]++
		wantRefused(t, s, one, right, err)
		wantRefused(t, s, right, one, err)
		for _, other := range wrong {
			wantRefused(t, s, one, other, err)
		}
	}
	for _, err := range []api.Errno{api.ErrNone, api.ErrKind, api.ErrBroken, api.ErrLong} {
		if kinds[err] == 0 {
			t.Errorf("no tree is refused by %d", err)
		}
	}
}

// wide is a folder of that many places of one tree, within one another.
func wide(t *testing.T, s *store.Store, id api.Id, levels int) api.Id {
	t.Helper()
	for range levels {
		var entries []api.Entry
		for k := range api.MaxEntries {
			entries = append(entries, folder(strconv.Itoa(1000+k), id))
		}
		id = keepTree(t, s, entries...)
	}
	return id
}

// P10.1: MaxChanges, and one more.
func TestBetweenMany(t *testing.T) {
	s, _ := open(t)
	none, part := made(t, s), made(t, s, "a", "1")
	var entries []api.Entry
	for k := range api.MaxChanges / api.MaxEntries {
		entries = append(entries, folder(strconv.Itoa(100+k), wide(t, s, part, 1)))
	}
	full := keepTree(t, s, entries...)
	more := keepTree(t, s, append(entries, file("a", digit("1")))...)
	if l, err := change.Between(s, none, full, api.MaxChanges); len(l) != api.MaxChanges || err != api.OK {
		t.Errorf("Between: %d changes, %d", len(l), err)
	}
	if l, err := change.Between(s, more, none, api.MaxChanges); l != nil || err != api.ErrLong {
		t.Errorf("Between: %d changes, %d", len(l), err)
	}
	if l := each(s, none, more); len(l) != api.MaxChanges+1 || l[api.MaxChanges].Path != "a" {
		t.Errorf("Each told %d changes", len(l))
	}
}

// P10.1: MaxChanges trees that are read, and one more.
func TestReadMany(t *testing.T) {
	s, _ := open(t)
	none, part := made(t, s), made(t, s, "a/b", "1")
	// With its root and the empty tree, 2 + 63 * 257 + 191 are read.
	entries := []api.Entry{folder("0", keepTree(t, s, numbered(190, made(t, s, "a", "1"))...))}
	for k := range 63 {
		entries = append(entries, folder(strconv.Itoa(100+k), keepTree(t, s, numbered(256, made(t, s, "a", "1"))...)))
	}
	wantRead(t, s, none, keepTree(t, s, entries...), api.MaxChanges)
	wantRead(t, s, keepTree(t, s, entries...), none, api.MaxChanges)
	more := keepTree(t, s, append(entries, folder("a", made(t, s, "a", "1")))...)
	less := keepTree(t, s, append(entries, file("a", digit("1")))...)
	wantRead(t, s, none, less, api.MaxChanges)
	for _, id := range []api.Id{more, wide(t, s, part, 2), wide(t, s, part, 14)} {
		if n, err := change.Read(s, none, id); n != 0 || err != api.ErrLong {
			t.Errorf("Read: %d %d", n, err)
		}
		if n, err := change.Read(s, id, none); n != 0 || err != api.ErrLong {
			t.Errorf("Read: %d %d", n, err)
		}
	}
}

// numbered is that many folders of one tree.
func numbered(n int, id api.Id) []api.Entry {
	var entries []api.Entry
	for k := range n {
		entries = append(entries, folder(strconv.Itoa(1000+k), id))
	}
	return entries
}

// R1: trees with more files than can be gone through, all of which are unlike, or all but one of which are shared.
func TestBetweenVeryMany(t *testing.T) {
	s, _ := open(t)
	one, two := wide(t, s, made(t, s, "x", "1"), 15), wide(t, s, made(t, s, "x", "2"), 15)
	none := made(t, s)
	for _, pair := range [][2]api.Id{{one, two}, {one, none}, {none, two}} {
		if l, err := change.Between(s, pair[0], pair[1], api.MaxChanges); l != nil || err != api.ErrLong {
			t.Errorf("Between: %d changes, %d", len(l), err)
		}
		count := 0
		for c := range change.Each(s, pair[0], pair[1]) {
			if !strings.HasPrefix(c.Path, "1000/1000/") {
				t.Errorf("told %v", c)
			}
			if count++; count == 1000 {
				break
			}
		}
	}
	path := strings.Repeat("1255/", 15) + "x"
	three, err := tree.Put(s, one, path, []byte("3"))
	if err != api.OK {
		t.Fatalf("Put: %d", err)
	}
	wantBetween(t, s, one, three, listed(path, "1", "3"))
	wantRead(t, s, one, three, 32)
}

// R6: Each is left early, gone through again, and told what there is when that begins.
func TestEachAgain(t *testing.T) {
	s, _ := open(t)
	one := made(t, s, "a", "1")
	late := api.Tree{Entries: []api.Entry{file("a", digit("2")), file("b", digit("1")), folder("c", one)}}
	all := change.Each(s, one, idOf(late))
	for c := range all {
		t.Errorf("told %v of a tree that is not there", c)
	}
	keepBlob(t, s, "2")
	keep(t, s, late)
	asked := listed("a", "1", "2", "b", "", "1", "c/a", "", "1")
	for n := range asked {
		var told []api.Change
		for c := range all {
			told = append(told, c)
			for inner := range all {
				if inner != asked[0] {
					t.Errorf("told %v first", inner)
				}
				break
			}
			if keepBlob(t, s, c.Path); len(told) == n+1 {
				break
			}
		}
		if !slices.Equal(told, asked[:n+1]) {
			t.Errorf("told %v, not %v", told, asked[:n+1])
		}
	}
	wantBetween(t, s, one, idOf(late), asked)
}

// R3: what Between answers is new memory.
func TestBetweenSharesNothing(t *testing.T) {
	s, _ := open(t)
	one, two := made(t, s, "a", "1", "b/c", "1", "d", "1"), made(t, s, "a", "2")
	for range 2 {
		l, _ := change.Between(s, one, two, 9)
		for k := range l[:cap(l)] {
			l[:cap(l)][k] = api.Change{Path: "spoiled"}
		}
		wantBetween(t, s, one, two, listed("a", "1", "2", "b/c", "1", "", "d", "1", ""))
	}
}
