package carve_test

import (
	"strconv"
	"strings"
	"testing"

	"espalier/api"
	"espalier/disk"
	"espalier/pathmap"
	"espalier/store"
)

// selfRing puts in a commit that is its own parent, by a date that was chosen for its id.
func selfRing(t *testing.T, s *store.Store) api.Id {
	t.Helper()
	c := api.Commit{Tree: put(t, s, api.Tree{}), Parents: []api.Id{2}, Date: -3590087674594721765, Text: "self"}
	if id := put(t, s, c); id != 2 {
		t.Fatalf("the commit has the id %x", id)
	}
	return 2
}

// blobLikeA is a blob that has the id of the commit A of chapter 16's section 'Examples'.
const blobLikeA = "\x82\x3c\x00\x38\x11\x30\x22\x16\x08\x05\x05\x0f\xfa\x00"

// P19.3: what stands in, and how much was done for it; no ref is asked or set.
func TestHead(t *testing.T) {
	c, d := onDisk(t)
	h := chapter(t, c.Store())
	m := mapOf(t, keep("a"))
	wantCarved(t, "1", 0, 1, 0, 1)(c.Head(m, h.one))
	wantPairs(t, c, m, pair(h.one, 0))
	wantCarved(t, "1 again", 0, 0, 0, 0)(c.Head(m, h.one))
	wantCarved(t, "2", h.a, 1, 1, 1)(c.Head(m, h.two))
	wantCarved(t, "5", h.b, 3, 1, 3)(c.Head(m, h.five))
	wantCarved(t, "3, behind 5", h.a, 0, 0, 0)(c.Head(m, h.three))
	wantCarved(t, "6", h.b, 1, 0, 1)(c.Head(m, h.six))
	wantPairs(t, c, m, pair(h.one, 0), pair(h.two, h.a), pair(h.three, h.a), pair(h.four, h.b), pair(h.five, h.b), pair(h.six, h.b))
	if c.Refs().Len() != 0 {
		t.Error("refs are set")
	}
	if _, err := d.Size("refs"); err != api.ErrNone {
		t.Error("refs are written")
	}
	wantCarved(t, "by Trivial", h.five, 5, 5, 5)(c.Head(pathmap.Trivial(), h.five))
	wantCarved(t, "by two rules", h.five, 5, 5, 5)(c.Head(mapOf(t, keep("a"), keep("b")), h.five))
	wantCarved(t, "by none", 0, 5, 0, 5)(c.Head(mapOf(t), h.five))
	wantCarved(t, "by none again", 0, 0, 0, 0)(c.Head(mapOf(t), h.five))
	wantCarved(t, "by keep a, once more", h.b, 0, 0, 0)(c.Head(m, h.six))
}

// P19.3: the memo is taken at its word, and nothing beyond what it knows is looked at.
func TestHeadGoesByMemo(t *testing.T) {
	c, _ := onDisk(t)
	s := c.Store()
	h := chapter(t, s)
	m := mapOf(t, keep("a"))
	if err := memoOf(t, c, m).Add(pair(h.two, 0), pair(missing, h.four)); err != api.OK {
		t.Fatal(err)
	}
	own := idOf(commitOf("3", made(t, s, "a/x", "1")))
	wantCarved(t, "3 of 2, for which it says that nothing stands in", own, 1, 1, 1)(c.Head(m, h.three))
	wantCarved(t, "what it knows, and is no commit", h.four, 0, 0, 0)(c.Head(m, missing))
	beyond := commit(t, s, "beyond", files{"a/x", "2"}, missing)
	wantCarved(t, "of what it knows, and is no commit", h.four, 1, 0, 1)(c.Head(m, beyond))
	wantPairs(t, c, m, pair(h.two, 0), pair(missing, h.four), pair(h.three, own), pair(beyond, h.four))
}

// wrong is a host that can't be carved by a Map, and what is answered.
type wrong struct {
	what  string
	m     *pathmap.Map
	host  api.Id
	asked api.Errno
}

// wrongHosts is hosts whose histories begin with one commit that can be carved.
func wrongHosts(t *testing.T, s *store.Store) []wrong {
	t.Helper()
	good := commit(t, s, "good", files{"a/x", "1"})
	one, ring := made(t, s, "a/x", "1"), selfRing(t, s)
	empty := put(t, s, api.Tree{Entries: []api.Entry{{Name: "a", Folder: true, Id: made(t, s)}}})
	long := strings.TrimSuffix(strings.Repeat(strings.Repeat("l", 32)+"/", 6), "/")
	part := put(t, s, api.Tree{Entries: []api.Entry{{Name: "a", Folder: true, Id: one}, {Name: "b", Id: missing}}})
	a, deep := mapOf(t, keep("a")), mapOf(t, move("a", long))
	return []wrong{
		{"nothing", a, missing, api.ErrNone},
		{"the id 0", a, 0, api.ErrNone},
		{"a commit of nothing", a, commit(t, s, "of none", files{"a/x", "1"}, good, missing), api.ErrNone},
		{"a tree that is not there", a, put(t, s, commitOf("no tree", missing, good)), api.ErrNone},
		{"a blob that is not there, where nothing has an image", a, put(t, s, commitOf("no blob", part, good)), api.ErrNone},
		{"a blob", a, put(t, s, api.Blob{Bytes: []byte("1")}), api.ErrKind},
		{"a tree", a, one, api.ErrKind},
		{"a commit of a tree", a, commit(t, s, "of a tree", files{"a/x", "1"}, good, one), api.ErrKind},
		{"a ring", a, ring, api.ErrRing},
		{"a commit of a ring", a, commit(t, s, "of a ring", files{"a/x", "1"}, good, ring), api.ErrRing},
		{"an empty folder", a, put(t, s, commitOf("an empty folder", empty, good)), api.ErrBroken},
		{"a file at the root", mapOf(t, move("b", "")), commit(t, s, "root", files{"a/x", "2", "b", "1"}, good), api.ErrClash},
		{"an image that is too long", deep, commit(t, s, "long", files{"a/xyz", "1"}, good), api.ErrLong},
	}
}

// P19.3, P19.4: split.From's errors: nothing is learned of any commit, and the side stands.
func TestHeadErrors(t *testing.T) {
	c, d := onDisk(t)
	for _, w := range wrongHosts(t, c.Store()) {
		wantNone(t, w.what, w.asked)(c.Head(w.m, w.host))
		wantPairs(t, c, w.m)
		if w.host == 0 {
			continue
		}
		for _, side := range []api.Id{missing, w.host, 0} {
			if side == 0 {
				set(t, c, ref("side", 0))
			} else {
				set(t, c, ref("host", w.host), ref("side", side))
			}
			refs := d.Copy()
			wantNone(t, w.what, w.asked)(c.Carve(w.m, "host", "side"))
			wantRef(t, c, "host", w.host)
			wantRef(t, c, "side", side)
			wantRefs(t, w.what, d, open(t, refs).Refs().Under("")...)
		}
		wantPairs(t, c, w.m)
	}
}

// P19.3: an own commit whose id has other bytes.
func TestHeadCollision(t *testing.T) {
	c, _, h := chapterDisk(t)
	m := mapOf(t, keep("a"))
	if id := put(t, c.Store(), api.Blob{Bytes: []byte(blobLikeA)}); id != h.a {
		t.Fatalf("the blob has the id %x, not %x", id, h.a)
	}
	wantCarved(t, "1", 0, 1, 0, 1)(c.Head(m, h.one))
	wantNone(t, "5", api.ErrCollision)(c.Head(m, h.five))
	wantNone(t, "5", api.ErrCollision)(c.Carve(m, "host", "side"))
	wantPairs(t, c, m, pair(h.one, 0))
	wantRef(t, c, "side", 0)
}

// P19.3: Memo's error goes ahead of split.From's; this one ahead of memo.Add's, of a memo that has as many pairs as may be.
func TestHeadFullMemo(t *testing.T) {
	c, d, h := chapterDisk(t)
	m := mapOf(t, keep("a"))
	wantCarved(t, "2", h.a, 2, 1, 2)(c.Head(m, h.two))
	many := make([]api.Pair, api.MaxRun-2)
	for k := range many {
		many[k] = pair(api.Id(100+k), 0)
	}
	if err := memoOf(t, c, m).Add(many...); err != api.OK {
		t.Fatal(err)
	}
	set(t, c, ref("side", missing))
	wantNone(t, "5", api.ErrLong)(c.Head(m, h.five))
	wantNone(t, "5", api.ErrLong)(c.Carve(m, "host", "side"))
	wantNone(t, "nothing", api.ErrNone)(c.Head(m, missing))
	wantNone(t, "a blob", api.ErrKind)(c.Head(m, put(t, c.Store(), api.Blob{})))
	wantCarved(t, "2 again", h.a, 0, 0, 0)(c.Head(m, h.two))
	wantCarved(t, "by other rules", h.five, 5, 5, 5)(c.Head(pathmap.Trivial(), h.five))
	wantRef(t, c, "side", missing)
	if n := memoOf(t, c, m).Len(); n != api.MaxRun {
		t.Errorf("%d pairs", n)
	}
	lay(t, d, memoFile("keep a\n"), []byte{0x80, 0})
	wantNone(t, "a broken memo", api.ErrBroken)(c.Head(m, h.two))
	wantNone(t, "a broken memo, nothing", api.ErrBroken)(c.Head(m, missing))
}

// fill lays files on a disk until it has so many.
func fill(t *testing.T, d *disk.Disk, n int) {
	t.Helper()
	for k := 0; len(d.Names()) < n; k++ {
		lay(t, d, "filled."+strconv.Itoa(k), nil)
	}
}

// P19.3, P19.4: memo.Add's error, of a disk that has no room for the files of the memo.
func TestHeadFullDisk(t *testing.T) {
	for room := range 3 {
		c, d, h := chapterDisk(t)
		m := mapOf(t, keep("a"))
		memoOf(t, c, m)
		set(t, c, ref("side", missing))
		fill(t, d, api.MaxFiles-room)
		if room == 2 {
			wantCarved(t, "room for both", h.b, 5, 2, 5)(c.Carve(m, "host", "side"))
			wantRef(t, c, "side", h.b)
			continue
		}
		wantNone(t, "room "+strconv.Itoa(room), api.ErrLong)(c.Head(m, h.five))
		wantNone(t, "room "+strconv.Itoa(room), api.ErrLong)(c.Carve(m, "host", "side"))
		wantNone(t, "room "+strconv.Itoa(room)+", nothing", api.ErrNone)(c.Head(m, missing))
		wantRef(t, c, "side", missing)
		wantPairs(t, c, m)
		d.Remove("filled.0")
		d.Remove("filled.1")
		wantCarved(t, "behind that", h.b, 5, 2, 5)(c.Carve(m, "host", "side"))
	}
}

// P19.4: the order of errors ahead of Head's: nothing is written by then.
func TestCarveOrder(t *testing.T) {
	c, d, _ := chapterDisk(t)
	m := mapOf(t, keep("a"))
	lay(t, d, rulesOf("keep a\n"), recordOf("keep b\n")) // so that Head's error is ErrCollision
	before := d.Copy()
	for _, row := range []struct {
		host, side string
		asked      api.Errno
	}{
		{"none", "side", api.ErrNone},
		{"none", "a//b", api.ErrNone},
		{"none", "", api.ErrNone},
		{"none", "none", api.ErrNone},
		{"side", "host", api.ErrNone},
		{"", "", api.ErrNone},
		{"a//b", "a//b", api.ErrNone},
		{"host/", "side", api.ErrNone},
		{"host", "a//b", api.ErrName},
		{"host", "/", api.ErrName},
		{"host", "host/", api.ErrName},
		{"host", "/host", api.ErrName},
		{"host", "..", api.ErrName},
		{"host", "a\xff", api.ErrName},
		{"host", strings.Repeat("a", 33), api.ErrLong},
		{"host", strings.Repeat("a/", 16) + "a", api.ErrLong},
		{"host", strings.Repeat("aaaaaaaaaaaaaaaaaaaaaaa/", 9), api.ErrLong},
		{"host", "", api.ErrArg},
		{"host", "host", api.ErrArg},
		{"host", "side", api.ErrCollision},
		{"host", "host/host", api.ErrCollision},
		{"host", strings.Repeat("a/", 15) + "a", api.ErrCollision},
	} {
		for _, cut := range []bool{false, true} {
			if cut {
				d.Cut(0)
			}
			wantNone(t, row.host+" to "+row.side, row.asked)(c.Carve(m, row.host, row.side))
			d.Mend()
		}
	}
	wantSameFiles(t, "errors ahead of Head's", d, before)
}

// P19.4: the side is led to the Head, from wherever it led; names in one another are names as all others.
func TestCarveSides(t *testing.T) {
	c, d, h := chapterDisk(t)
	m := mapOf(t, keep("a"))
	set(t, c, ref("one", missing), ref("two", h.b), ref("host/a", h.a))
	wantCarved(t, "from what is not there", h.b, 5, 2, 5)(c.Carve(m, "host", "one"))
	wantCarved(t, "from the Head", h.b, 0, 0, 0)(c.Carve(m, "host", "two"))
	wantCarved(t, "from an ancestor", h.b, 0, 0, 0)(c.Carve(m, "host", "host/a"))
	wantCarved(t, "from nowhere", h.b, 0, 0, 0)(c.Carve(m, "host", "host/b/c"))
	wantCarved(t, "by other rules", 0, 5, 0, 5)(c.Carve(mapOf(t, keep("c")), "host", "two"))
	wantRefs(t, "all", d, ref("host", h.five), ref("host/a", h.b), ref("host/b/c", h.b), ref("one", h.b))
	// A carved history is carved as any other.
	wantCarved(t, "the side's side", h.b, 2, 2, 2)(c.Carve(m, "one", "side"))
	wantRef(t, c, "side", h.b)
	inner := mapOf(t, move("a", ""))
	x := idOf(commitOf("2", made(t, c.Store(), "x", "1")))
	y := idOf(commitOf("4", made(t, c.Store(), "x", "2"), x))
	wantCarved(t, "the side, moved", y, 2, 2, 2)(c.Carve(inner, "side", "moved"))
	wantCarved(t, "the host, moved", y, 5, 2, 5)(c.Carve(inner, "host", "moved"))
	wantRef(t, c, "moved", y)
	wantRef(t, c, "host", h.five)
}

// P19.4: where nothing stands in for the host the side leads nowhere; it is taken away only if it leads somewhere.
func TestCarveNothing(t *testing.T) {
	c, d, h := chapterDisk(t)
	m := mapOf(t, keep("a"))
	set(t, c, ref("host", h.one))
	size, _ := d.Size("refs")
	wantCarved(t, "nowhere ahead", 0, 1, 0, 1)(c.Carve(m, "host", "side"))
	wantRefs(t, "nowhere ahead", d, ref("host", h.one))
	if n, _ := d.Size("refs"); n != size {
		t.Error("refs are written")
	}
	d.Cut(0)
	wantCarved(t, "nowhere ahead, cut", 0, 0, 0, 0)(c.Carve(m, "host", "side"))
	d.Mend()

	set(t, c, ref("side", missing), ref("side/a", missing))
	wantCarved(t, "somewhere ahead", 0, 0, 0, 0)(c.Carve(m, "host", "side"))
	wantRefs(t, "somewhere ahead", d, ref("host", h.one), ref("side/a", missing))
	wantRef(t, c, "side", 0)

	// The cut of taking it away.
	set(t, c, ref("side", h.b))
	writes := d.Copy()
	wantCarved(t, "counted", 0, 0, 0, 0)(open(t, writes).Carve(m, "host", "side"))
	if writes.Writes() == 0 {
		t.Fatal("nothing is written")
	}
	for cut := range writes.Writes() {
		some := d.Copy()
		some.Cut(cut)
		one := open(t, some)
		wantNone(t, "cut", api.ErrCut)(one.Carve(m, "host", "side"))
		wantRef(t, one, "side", h.b)
		some.Mend()
		wantRef(t, open(t, some), "side", h.b)
		wantCarved(t, "mended", 0, 0, 0, 0)(open(t, some).Carve(m, "host", "side"))
		wantRefs(t, "mended", some, ref("host", h.one), ref("side/a", missing))
	}
}

// P19.4: a carve that has nothing to do writes nothing.
func TestCarveWritesNothing(t *testing.T) {
	c, d, h := chapterDisk(t)
	for _, m := range []*pathmap.Map{mapOf(t, keep("a")), pathmap.Trivial(), mapOf(t)} {
		first, err := c.Carve(m, "host", "side")
		if err != api.OK || first.New != 5 {
			t.Fatalf("%+v %d", first, err)
		}
		writes := d.Writes()
		d.Cut(0)
		wantCarved(t, "once more", first.Head, 0, 0, 0)(c.Carve(m, "host", "side"))
		wantCarved(t, "opened again", first.Head, 0, 0, 0)(open(t, d).Carve(m, "host", "side"))
		wantCarved(t, "its head", first.Head, 0, 0, 0)(c.Head(m, h.five))
		wantWrites(t, "once more", d, writes)
		d.Mend()
	}
}

// P19.4: as many refs as there may be: ErrLong, behind which the commits are known; what needs no room is done.
func TestCarveFullRefs(t *testing.T) {
	c, d, h := chapterDisk(t)
	m := mapOf(t, keep("a"))
	set(t, c, ref("one", missing))
	for k := range api.MaxRefs - 2 {
		set(t, c, ref("full/"+strconv.Itoa(k), missing))
	}
	before := c.Refs().Under("")
	wantNone(t, "one more", api.ErrLong)(c.Carve(m, "host", "side"))
	wantRefs(t, "one more", d, before...)
	wantPairs(t, c, m, pair(h.one, 0), pair(h.two, h.a), pair(h.three, h.a), pair(h.four, h.b), pair(h.five, h.b))
	wantNone(t, "one more, nothing there", api.ErrNone)(c.Carve(m, "full/0", "side"))
	wantCarved(t, "a ref that is there", h.b, 0, 0, 0)(c.Carve(m, "host", "one"))
	wantCarved(t, "nothing stands in", 0, 5, 0, 5)(c.Carve(mapOf(t), "host", "side"))
	wantCarved(t, "nothing stands in, a ref that is there", 0, 0, 0, 0)(c.Carve(mapOf(t), "host", "one"))
	wantCarved(t, "there is room", h.b, 0, 0, 0)(c.Carve(m, "host", "side"))
	wantRef(t, c, "one", 0)
	wantRef(t, c, "side", h.b)
}
