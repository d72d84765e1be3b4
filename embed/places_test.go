package embed_test

import (
	"slices"
	"testing"

	"espalier/api"
	"espalier/disk"
	"espalier/embed"
	"espalier/memo"
	"espalier/pathmap"
	"espalier/split"
	"espalier/store"
)

// host is the history of chapter 16's section 'Examples', and what its own commits have to be by the rule keep a.
type host struct {
	one, two, three, four, five, six api.Id
	a, b                             api.Id
}

func chapter(t *testing.T, s *store.Store) host {
	t.Helper()
	var h host
	h.one = commit(t, s, "1", files{"b", "1"})
	h.two = commit(t, s, "2", files{"b", "1", "a/x", "1"}, h.one)
	h.three = commit(t, s, "3", files{"b", "2", "a/x", "1"}, h.two)
	h.four = commit(t, s, "4", files{"a/x", "2"}, h.two)
	h.five = commit(t, s, "5", files{"a/x", "2"}, h.three, h.four)
	h.six = commit(t, s, "6", files{"a/x", "2"}, h.four, h.three)
	h.a = idOf(commitOf("2", made(t, s, "a/x", "1")))
	h.b = idOf(commitOf("4", made(t, s, "a/x", "2"), h.a))
	return h
}

// P20.2: the host's head for what stands in for it, kept or pruned; for others the kept commit.
func TestPlaces(t *testing.T) {
	s, _ := open(t)
	h, m := chapter(t, s), mapOf(t, keep("a"))
	wantPlaces(t, "none")(embed.Places(s, m, nil, 0))
	wantPlaces(t, "1, for which nothing stands in")(embed.Places(s, m, nil, h.one))
	wantPlaces(t, "2", pair(h.a, h.two))(embed.Places(s, m, nil, h.two))
	wantPlaces(t, "3, which is pruned", pair(h.a, h.three))(embed.Places(s, m, nil, h.three))
	wantPlaces(t, "4", pair(h.a, h.two), pair(h.b, h.four))(embed.Places(s, m, nil, h.four))
	wantPlaces(t, "5, which is pruned", pair(h.a, h.two), pair(h.b, h.five))(embed.Places(s, m, nil, h.five))
	wantPlaces(t, "6, which is pruned", pair(h.a, h.two), pair(h.b, h.six))(embed.Places(s, m, nil, h.six))
	next := commit(t, s, "7", files{"b", "3", "a/x", "2"}, h.six)
	wantPlaces(t, "7 of 6", pair(h.a, h.two), pair(h.b, next))(embed.Places(s, m, nil, next))
	last := commit(t, s, "8", files{"a/x", "3"}, next)
	own := idOf(commitOf("8", made(t, s, "a/x", "3"), h.b))
	wantPlaces(t, "8 of 7", pair(h.a, h.two), pair(h.b, h.four), pair(own, last))(embed.Places(s, m, nil, last))
	gone := commit(t, s, "9", files{"b", "3"}, last)
	bare := idOf(commitOf("9", made(t, s), own))
	wantPlaces(t, "9 of 8", pair(h.a, h.two), pair(h.b, h.four), pair(own, last), pair(bare, gone))(embed.Places(s, m, nil, gone))

	wantPlaces(t, "by none")(embed.Places(s, mapOf(t), nil, last))
	wantPlaces(t, "5 by Trivial", pair(h.one, h.one), pair(h.two, h.two), pair(h.three, h.three), pair(h.four, h.four), pair(h.five, h.five))(embed.Places(s, pathmap.Trivial(), nil, h.five))
	lib := mapOf(t, move("a", "lib"))
	libA := idOf(commitOf("2", made(t, s, "lib/x", "1")))
	wantPlaces(t, "3 by move a lib", pair(libA, h.three))(embed.Places(s, lib, nil, h.three))
}

// P20.2: of several kept commits with one own one the first, in the order of the history; the head goes ahead of it.
func TestPlacesFirst(t *testing.T) {
	s, _ := open(t)
	m := mapOf(t, keep("a"))
	one := put(t, s, api.Commit{Tree: made(t, s, "a/x", "1", "b", "1"), Text: "t"})
	two := put(t, s, api.Commit{Tree: made(t, s, "a/x", "1", "b", "2"), Text: "t"})
	three := put(t, s, api.Commit{Tree: made(t, s, "a/x", "1", "b", "3"), Text: "t"})
	own := idOf(api.Commit{Tree: made(t, s, "a/x", "1"), Text: "t"})
	for _, parents := range [][]api.Id{list(one, two, three), list(two, one, three), list(three, two, one), list(two, three, one)} {
		pruned := commit(t, s, "pruned", files{"a/x", "1"}, parents...)
		wantPlaces(t, "one own, the head is pruned", pair(own, pruned))(embed.Places(s, m, nil, pruned))
		kept := commit(t, s, "kept", files{"a/x", "2"}, parents...)
		head := idOf(commitOf("kept", made(t, s, "a/x", "2"), own))
		wantPlaces(t, "one own, the head is kept", pair(own, parents[0]), pair(head, kept))(embed.Places(s, m, nil, kept))
		next := commit(t, s, "next", files{"a/x", "2"}, pruned)
		head = idOf(commitOf("next", made(t, s, "a/x", "2"), own))
		wantPlaces(t, "one own, a pruned one between", pair(own, parents[0]), pair(head, next))(embed.Places(s, m, nil, next))
		// The order goes through the first parent's history ahead of the second one.
		late := commit(t, s, "late", files{"b", "1", "a/x", "1"}, parents[2])
		deep := commit(t, s, "deep", files{"a/x", "3"}, late, parents[0])
		head = idOf(commitOf("deep", made(t, s, "a/x", "3"), own))
		wantPlaces(t, "one own, the first is deeper", pair(own, parents[2]), pair(head, deep))(embed.Places(s, m, nil, deep))
	}
}

// P20.2: more places than one sees at a glance, by rising x.
func TestPlacesRise(t *testing.T) {
	s, _ := open(t)
	m := mapOf(t, move("a", ""))
	var hosts, sides []api.Id
	var asked []api.Pair
	for k := range 60 {
		at := string(rune('0' + k))
		hosts = append(hosts, commit(t, s, at, files{"a/x", at, "b", at}, hosts[max(0, k-1):]...))
		sides = append(sides, idOf(commitOf(at, made(t, s, "x", at), sides[max(0, k-1):]...)))
		asked = append(asked, pair(sides[k], hosts[k]))
	}
	wantPlaces(t, "a long line", asked...)(embed.Places(s, m, nil, hosts[59]))
	if slices.IsSorted(sides) {
		t.Error("they rise anyhow")
	}
}

// P20.2: whatever is known, and true, the places are the same: all, none, the head alone, anything between.
func TestPlacesKnown(t *testing.T) {
	s, d := open(t)
	h, m := chapter(t, s), mapOf(t, keep("a"))
	whole := d.Copy()
	all := pairs(pair(h.one, 0), pair(h.two, h.a), pair(h.three, h.a), pair(h.four, h.b), pair(h.five, h.b), pair(h.six, h.b))
	for set := range 1 << len(all) {
		s := openDisk(t, whole.Copy())
		// What is told as known is put in, as it has to be where it is known.
		split.Of(s, m, h.five)
		k := learned{}
		for n, p := range all {
			if set&(1<<n) != 0 {
				k[p.From] = p.To
			}
		}
		wantPlaces(t, "3", pair(h.a, h.three))(embed.Places(s, m, k, h.three))
		wantPlaces(t, "5", pair(h.a, h.two), pair(h.b, h.five))(embed.Places(s, m, k, h.five))
		wantPlaces(t, "6", pair(h.a, h.two), pair(h.b, h.six))(embed.Places(s, m, k, h.six))
		wantPlaces(t, "none")(embed.Places(s, m, k, 0))
		if t.Failed() {
			t.Fatalf("known: %x", k)
		}
	}
	for _, c := range list(h.one, h.two, h.three, h.four, h.five, h.six) {
		u, err := split.Of(s, m, c)
		if err != api.OK {
			t.Fatal(err)
		}
		wantPlaces(t, "5 by a Table", pair(h.a, h.two), pair(h.b, h.five))(embed.Places(s, m, u, h.five))
		known, err := memo.Open(disk.New(), m.Key())
		if err != api.OK || known.Add(u.Pairs()...) != api.OK {
			t.Fatal(err)
		}
		wantPlaces(t, "6 by a memo", pair(h.a, h.two), pair(h.b, h.six))(embed.Places(s, m, known, h.six))
	}
	for _, k := range []split.Known{(*split.Table)(nil), (*memo.Memo)(nil), learned(nil)} {
		wantPlaces(t, "5 by nothing", pair(h.a, h.two), pair(h.b, h.five))(embed.Places(s, m, k, h.five))
	}
}

// P20.2: what is known is not projected again: it may be what could not be.
func TestPlacesByWhatIsKnown(t *testing.T) {
	s, _ := open(t)
	m := mapOf(t, move("a", long()))
	bad := commit(t, s, "bad", files{"a/xx", "1"})
	head := commit(t, s, "head", files{"a/x", "1"}, bad)
	wantNoPlaces(t, "an image that is too long", api.ErrLong)(embed.Places(s, m, nil, head))
	wantNoPlaces(t, "an image that is too long, another one known", api.ErrLong)(embed.Places(s, m, learned{missing: 0}, head))
	own := idOf(commitOf("head", made(t, s, long()+"/x", "1")))
	wantPlaces(t, "nothing stands in for it, as is known", pair(own, head))(embed.Places(s, m, learned{bad: 0}, head))
	root := commit(t, s, "root", files{"x", "1"})
	next := idOf(commitOf("head", made(t, s, long()+"/x", "1"), root))
	wantPlaces(t, "root stands in for it, as is known", pair(root, bad), pair(next, head))(embed.Places(s, m, learned{bad: root}, head))
	wantPlaces(t, "both are known", pair(root, head))(embed.Places(s, m, learned{bad: root, head: root}, head))
	wantNoPlaces(t, "what stands in is not there", api.ErrNone)(embed.Places(s, m, learned{bad: missing}, head))
	wantNoPlaces(t, "what stands in is no commit", api.ErrKind)(embed.Places(s, m, learned{bad: putBlob(t, s, "1")}, head))
}

// P20.2: split.From's error of the host; hosts whose histories are known in part, but are not there.
func TestPlacesErrors(t *testing.T) {
	s, _ := open(t)
	m := mapOf(t, keep("a"))
	for _, i := range ills(t, s) {
		if i.id == 0 {
			continue
		}
		wantNoPlaces(t, i.what, i.asked)(embed.Places(s, m, nil, i.id))
		wantNoPlaces(t, i.what+", by none", i.asked)(embed.Places(s, mapOf(t), nil, i.id))
		wantNoPlaces(t, i.what+", another one known", i.asked)(embed.Places(s, m, learned{missing + 1: 0}, i.id))
	}
	wantNoPlaces(t, "a file at the root", api.ErrClash)(embed.Places(s, mapOf(t, move("b", "")), nil, commit(t, s, "b", files{"b", "1"})))
	child := commit(t, s, "child", files{"a/x", "1"}, missing)
	for _, id := range list(missing, child) {
		wantNoPlaces(t, "a known history that is not there", api.ErrNone)(embed.Places(s, m, learned{id: 0}, id))
	}
	ring := selfRing(t, s)
	wantNoPlaces(t, "a known ring", api.ErrRing)(embed.Places(s, m, learned{ring: 0}, ring))
	wantNoPlaces(t, "a known blob", api.ErrKind)(embed.Places(s, m, learned{idOf(api.Blob{}): 0}, putBlob(t, s, "")))
}

// R3: what is answered is new memory each time, and what is known is left as it is.
func TestPlacesNewMemory(t *testing.T) {
	s, _ := open(t)
	h, m := chapter(t, s), mapOf(t, keep("a"))
	k := learned{h.two: h.a}
	split.Of(s, m, h.two)
	told, _ := embed.Places(s, m, k, h.five)
	clear(told[:cap(told)])
	wantPlaces(t, "again", pair(h.a, h.two), pair(h.b, h.five))(embed.Places(s, m, k, h.five))
	if len(k) != 1 || k[h.two] != h.a {
		t.Errorf("known: %x", k)
	}
}
