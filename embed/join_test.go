package embed_test

import (
	"math"
	"slices"
	"strings"
	"testing"

	"espalier/api"
	"espalier/embed"
	"espalier/object"
	"espalier/pathmap"
	"espalier/split"
	"espalier/tree"
)

// mergeOf is the commit that joins a host and what was made for a side.
func mergeOf(by api.Commit, tree api.Id, parents ...api.Id) api.Commit {
	by.Tree, by.Parents = tree, parents
	return by
}

// P20.3: into none: each commit is made on those of its parents, or on nothing; what it says is carried.
func TestJoinIntoNone(t *testing.T) {
	s, _ := open(t)
	m, by := mapOf(t, move("lib", ""), drop("lib/own")), text("join")
	one := put(t, s, api.Commit{Tree: made(t, s, "x", "1"), Author: "é", Date: math.MinInt64, Text: "line\nline\n"})
	two := put(t, s, api.Commit{Tree: made(t, s, "y/z", "2"), Author: strings.Repeat("w", api.MaxAuthor), Date: math.MaxInt64, Text: strings.Repeat("t", api.MaxText)})
	three := commit(t, s, "3", files{"x", "1", "y/z", "2"}, two, one)
	gone := commit(t, s, "4", nil, three)
	back := commit(t, s, "5", files{"x", "1"}, gone, commit(t, s, "6", files{"x", "3"}, two))
	order := []api.Commit{{Tree: made(t, s, "lib/y/z", "2"), Author: strings.Repeat("w", api.MaxAuthor), Date: math.MaxInt64, Text: strings.Repeat("t", api.MaxText)}}
	order = append(order, api.Commit{Tree: made(t, s, "lib/x", "1"), Author: "é", Date: math.MinInt64, Text: "line\nline\n"})
	order = append(order, commitOf("3", made(t, s, "lib/x", "1", "lib/y/z", "2"), idOf(order[0]), idOf(order[1])))
	order = append(order, commitOf("4", made(t, s), idOf(order[2])))
	order = append(order, commitOf("6", made(t, s, "lib/x", "3"), idOf(order[0])))
	order = append(order, commitOf("5", made(t, s, "lib/x", "1"), idOf(order[3]), idOf(order[4])))
	var asked []api.Pair
	for k, x := range list(two, one, three, gone, commit(t, s, "6", files{"x", "3"}, two), back) {
		asked = append(asked, pair(x, idOf(order[k])))
	}
	wantJoined(t, "into none", api.Joined{Head: idOf(order[5]), Made: asked})(embed.Join(s, m, nil, 0, back, by))
	for _, c := range order {
		wantCommit(t, s, idOf(c), c)
	}
	wantCarved(t, s, m, idOf(order[5]), back, asked...)
	wantJoined(t, "again", api.Joined{Head: idOf(order[5])})(embed.Join(s, m, nil, idOf(order[5]), back, by))
	wantJoined(t, "again into none", api.Joined{Head: idOf(order[5]), Made: asked})(embed.Join(s, m, nil, 0, back, by))
	wantJoined(t, "by Trivial", api.Joined{Head: back})(embed.Join(s, pathmap.Trivial(), nil, back, back, by))
}

// P20.3: by Trivial what is made into none is the side itself.
func TestJoinTrivial(t *testing.T) {
	s, _ := open(t)
	one := commit(t, s, "1", files{"x", "1"})
	two := commit(t, s, "2", files{"x", "2"}, one)
	wantJoined(t, "into none", api.Joined{Head: two, Made: pairs(pair(one, one), pair(two, two))})(embed.Join(s, pathmap.Trivial(), nil, 0, two, text("join")))
	wantJoined(t, "into its parent", api.Joined{Head: two, Made: pairs(pair(two, two))})(embed.Join(s, pathmap.Trivial(), nil, one, two, text("join")))
	wantJoined(t, "into itself", api.Joined{Head: two})(embed.Join(s, pathmap.Trivial(), nil, two, two, text("join")))
	wantNotJoined(t, "what stands behind", api.ErrParted)(embed.Join(s, pathmap.Trivial(), nil, two, one, text("join")))
	other := commit(t, s, "other", files{"b", "1"})
	wantNotJoined(t, "what stands aside", api.ErrParted)(embed.Join(s, pathmap.Trivial(), nil, two, other, text("join")))
}

// P20.3: a host without a carved head: both are joined, with what is outside of the host, whoever signs it.
func TestJoinIntoHost(t *testing.T) {
	s, _ := open(t)
	m := mapOf(t, move("lib", ""), drop("lib/own"))
	h := commit(t, s, "h", files{"b/c", "1", "lib/own/d", "2"}, commit(t, s, "g", files{"b/c", "0"}))
	one := commit(t, s, "1", files{"x/y", "1"})
	root := commitOf("1", made(t, s, "lib/x/y", "1"))
	for _, by := range []api.Commit{
		{},
		text("join"),
		{Author: "é", Date: math.MinInt64, Text: "line\nline\n"},
		{Author: strings.Repeat("w", api.MaxAuthor), Date: math.MaxInt64, Text: strings.Repeat("t", api.MaxText), Tree: missing, Parents: list(missing, 0, 0, 0, 0, 0, 0, 0, 0)},
	} {
		room := append(by.Parents, missing, missing)
		by.Parents = room[:len(by.Parents)]
		kept := slices.Clone(room)
		merge := mergeOf(by, made(t, s, "b/c", "1", "lib/own/d", "2", "lib/x/y", "1"), h, idOf(root))
		wantJoined(t, "into h", api.Joined{Head: idOf(merge), Made: pairs(pair(one, idOf(root))), Merge: idOf(merge)})(embed.Join(s, m, nil, h, one, by))
		wantCommit(t, s, idOf(merge), merge)
		wantCommit(t, s, idOf(root), root)
		wantCarved(t, s, m, idOf(merge), one, pair(one, idOf(root)))
		if !slices.Equal(room, kept) {
			t.Errorf("the list is %x, not %x", room, kept)
		}
	}
	bare := commit(t, s, "bare", nil)
	merge := mergeOf(text("join"), made(t, s, "lib/x/y", "1"), bare, idOf(root))
	wantJoined(t, "into the empty tree", api.Joined{Head: idOf(merge), Made: pairs(pair(one, idOf(root))), Merge: idOf(merge)})(embed.Join(s, m, nil, bare, one, text("join")))
}

// P20.3: a host whose carved head the side has gone on from: that goes on from the host's head, with what is outside of it.
func TestJoinOnto(t *testing.T) {
	s, _ := open(t)
	h, m := chapter(t, s), mapOf(t, keep("a"))
	head := commit(t, s, "7", files{"b", "7", "a/x", "2"}, h.five)
	split.Of(s, m, head)
	c := commit(t, s, "c", files{"a/x", "3"}, h.b)
	d := commit(t, s, "d", files{"a/x", "3", "a/y", "1"}, c)
	hostC := commitOf("c", made(t, s, "b", "7", "a/x", "3"), head)
	hostD := commitOf("d", made(t, s, "b", "7", "a/x", "3", "a/y", "1"), idOf(hostC))
	asked := pairs(pair(c, idOf(hostC)), pair(d, idOf(hostD)))
	for _, k := range []split.Known{nil, learned{}, learned{head: h.b}, learned{h.two: h.a}, learned{h.four: h.b, h.three: h.a}} {
		wantJoined(t, "onto 7", api.Joined{Head: idOf(hostD), Made: asked})(embed.Join(s, m, k, head, d, text("join")))
	}
	wantCommit(t, s, idOf(hostC), hostC)
	wantCommit(t, s, idOf(hostD), hostD)
	wantCarved(t, s, m, idOf(hostD), d, asked...)
	wantJoined(t, "what was carved from it", api.Joined{Head: head})(embed.Join(s, m, nil, head, h.b, text("join")))
	wantJoined(t, "one by one", api.Joined{Head: idOf(hostC), Made: asked[:1]})(embed.Join(s, m, nil, head, c, text("join")))
	wantJoined(t, "the next one", api.Joined{Head: idOf(hostD), Made: asked[1:]})(embed.Join(s, m, nil, idOf(hostC), d, text("join")))
	wantNotJoined(t, "what stands behind", api.ErrParted)(embed.Join(s, m, nil, head, h.a, text("join")))
}

// P20.3: a commit of several parents stands on the first one that has the host's head as an ancestor; else on the first one.
func TestJoinBase(t *testing.T) {
	s, _ := open(t)
	h, m := chapter(t, s), mapOf(t, keep("a"))
	head := commit(t, s, "7", files{"b", "7", "a/x", "2"}, h.five)
	split.Of(s, m, head)
	old := commit(t, s, "old", files{"a/x", "5"}, h.a) // of A alone, whose place is 2, with b 1
	root := commit(t, s, "root", files{"a/r", "1"})    // of nothing
	aside := commit(t, s, "aside", files{"a/r", "2"}, root, old)
	turned := commit(t, s, "turned", files{"a/r", "2"}, old, root)
	onto := commit(t, s, "onto", files{"a/x", "6"}, h.b)
	late := commit(t, s, "late", files{"a/x", "7"}, aside, turned, onto, commit(t, s, "other", files{"a/x", "8"}, h.b))
	fresh := commit(t, s, "fresh", files{"a/z", "1"}) // of nothing
	last := commit(t, s, "last", nil, fresh, late)
	other := commit(t, s, "other", files{"a/x", "8"}, h.b)

	hosts := map[api.Id]api.Commit{}
	replay := func(x api.Id, text string, f files, parents ...api.Id) {
		hosts[x] = commitOf(text, made(t, s, f...), parents...)
	}
	id := func(x api.Id) api.Id { return idOf(hosts[x]) }
	replay(fresh, "fresh", files{"a/z", "1"})
	replay(root, "root", files{"a/r", "1"})
	replay(old, "old", files{"b", "1", "a/x", "5"}, h.two)
	replay(aside, "aside", files{"a/r", "2"}, id(root), id(old))
	replay(turned, "turned", files{"b", "1", "a/r", "2"}, id(old), id(root))
	replay(onto, "onto", files{"b", "7", "a/x", "6"}, head)
	replay(other, "other", files{"b", "7", "a/x", "8"}, head)
	replay(late, "late", files{"b", "7", "a/x", "7"}, id(aside), id(turned), id(onto), id(other))
	replay(last, "last", files{"b", "7"}, id(fresh), id(late))
	var asked []api.Pair
	for _, x := range list(fresh, root, old, aside, turned, onto, other, late, last) {
		asked = append(asked, pair(x, id(x)))
	}
	wantJoined(t, "the base", api.Joined{Head: id(last), Made: asked})(embed.Join(s, m, nil, head, last, text("join")))
	for _, c := range hosts {
		wantCommit(t, s, idOf(c), c)
	}
	wantCarved(t, s, m, id(last), last, asked...)
	// The carved head itself among the parents, at either place.
	for _, parents := range [][]api.Id{list(old, h.b), list(h.b, old), list(root, old, h.b)} {
		x := commit(t, s, "x", files{"a/x", "9"}, parents...)
		var onto []api.Id
		for _, parent := range parents {
			if parent == h.b {
				onto = append(onto, head)
			} else {
				onto = append(onto, id(parent))
			}
		}
		asked := idOf(commitOf("x", made(t, s, "b", "7", "a/x", "9"), onto...))
		if told, err := embed.Join(s, m, nil, head, x, text("join")); err != api.OK || told.Head != asked || told.Merge != 0 {
			t.Errorf("of %x: %x %d, not %x", parents, told, err, asked)
		}
	}
}

// P20.3: of what is known what stands in for the host is taken; nothing else says what has a place.
func TestJoinByWhatIsKnown(t *testing.T) {
	s, _ := open(t)
	m, by := mapOf(t, move("lib", "")), text("join")
	h := commit(t, s, "h", files{"b", "1"})
	one := commit(t, s, "1", files{"x", "1"})
	two := commit(t, s, "2", files{"x", "2"}, one)
	root := idOf(commitOf("1", made(t, s, "lib/x", "1")))
	wantJoined(t, "it stands in for the host, as is known, and nothing else has a place", api.Joined{Head: h, Made: pairs(pair(one, root))})(embed.Join(s, m, learned{h: two}, h, two, by))
	wantJoined(t, "it stands in for the host, as is known", api.Joined{Head: h})(embed.Join(s, m, learned{h: one}, h, one, by))
	onto := commitOf("2", made(t, s, "b", "1", "lib/x", "2"), h)
	wantJoined(t, "its parent does", api.Joined{Head: idOf(onto), Made: pairs(pair(two, idOf(onto)))})(embed.Join(s, m, learned{h: one}, h, two, by))
	wantNotJoined(t, "another one does", api.ErrParted)(embed.Join(s, m, learned{h: h}, h, two, by))
	wantNotJoined(t, "what is not there does", api.ErrParted)(embed.Join(s, m, learned{h: missing}, h, two, by))
}

// signers is commits by whom nothing can be joined, and why.
func signers() map[api.Errno][]api.Commit {
	return map[api.Errno][]api.Commit{
		api.ErrLong: {
			{Author: strings.Repeat("w", api.MaxAuthor+1)},
			{Author: strings.Repeat("\xff", api.MaxAuthor+1)},
			{Text: strings.Repeat("t", api.MaxText+1)},
			{Text: strings.Repeat("\x00", api.MaxText+1)},
			{Author: "a", Text: strings.Repeat("t", api.MaxText+1), Tree: 1},
		},
		api.ErrRight: {
			{Author: "\xff"},
			{Author: "a\x00"},
			{Text: "\xc3"},
			{Text: "\x00"},
			{Author: "\xff", Text: strings.Repeat("t", api.MaxText+1), Tree: 1},
		},
	}
}

// P20.3: whoever is to sign is held right, whether there is anything to sign or not.
func TestJoinSigners(t *testing.T) {
	s, _ := open(t)
	m := mapOf(t, move("lib", ""))
	h := commit(t, s, "h", files{"b", "1"})
	one := commit(t, s, "1", files{"x", "1"})
	before := s.Len()
	for asked, list := range signers() {
		for _, by := range list {
			wantErr(t, "what is asked", asked, object.Check(api.Commit{Tree: 1, Author: by.Author, Date: by.Date, Text: by.Text}))
			for _, host := range []api.Id{0, h, missing} {
				wantNotJoined(t, "a signer", asked)(embed.Join(s, m, nil, host, one, by))
			}
			wantNotJoined(t, "nothing to be done", asked)(embed.Join(s, pathmap.Trivial(), nil, one, one, by))
		}
	}
	if s.Len() != before {
		t.Error("something is put in")
	}
}

// P20.3: of several errors the first one: the side's, the signer's, the host's, that they have parted, and then those of what is made.
func TestJoinOrder(t *testing.T) {
	s, _ := open(t)
	m, fine := mapOf(t, keep("a/b")), text("join")
	wrong := api.Commit{Author: "\xff"}
	none := commit(t, s, "none", files{"x", "1"})
	clash := commit(t, s, "clash", files{"a", "1"}) // outside, where a folder has to be
	carved := commit(t, s, "carved", files{"a/b/x", "1"})
	parted := commit(t, s, "parted", files{"a", "2"}, carved) // its carved head has the empty tree
	side := commit(t, s, "side", files{"a/b/y", "1"})
	wantNotJoined(t, "the side", api.ErrImproper)(embed.Join(s, m, nil, missing, none, wrong))
	wantNotJoined(t, "the side, by its history", api.ErrNone)(embed.Join(s, m, nil, idOf(api.Blob{}), missing, wrong))
	wantNotJoined(t, "the signer", api.ErrRight)(embed.Join(s, m, nil, missing, side, wrong))
	wantNotJoined(t, "the signer, where they have parted", api.ErrRight)(embed.Join(s, m, nil, parted, side, wrong))
	wantNotJoined(t, "the host", api.ErrNone)(embed.Join(s, m, nil, missing, side, fine))
	wantNotJoined(t, "the host, of which something is known", api.ErrNone)(embed.Join(s, m, learned{missing: carved}, missing, side, fine))
	wantNotJoined(t, "parted", api.ErrParted)(embed.Join(s, m, nil, parted, side, fine))
	before := s.Len()
	wantNotJoined(t, "where a folder has to be", api.ErrClash)(embed.Join(s, m, nil, clash, side, fine))
	if s.Len() != before {
		t.Error("more is put in than was there")
	}
	for _, i := range ills(t, s) {
		wantNotJoined(t, i.what+" as the side", i.asked)(embed.Join(s, m, nil, missing, i.id, wrong))
		if i.id != 0 {
			wantNotJoined(t, i.what+" as the host", i.asked)(embed.Join(s, m, nil, i.id, side, fine))
			wantNotJoined(t, i.what+" as the host", api.ErrRight)(embed.Join(s, m, nil, i.id, side, wrong))
		}
	}
	for what, id := range improper(t, s) {
		wantNotJoined(t, what, api.ErrImproper)(embed.Join(s, mapOf(t, keep("a")), nil, missing, id, wrong))
	}
}

// P20.3: sides that can't be laid into a host: a file where a folder has to be, on either side; at the root; what is too long; too many entries. What was made ahead of it stays.
func TestJoinBack(t *testing.T) {
	s, _ := open(t)
	nested, by := mapOf(t, keep("a/b")), text("join")
	one := commit(t, s, "1", files{"a/b/x", "1"})
	two := commit(t, s, "2", files{"a/b", "1"}, one)
	wantNotJoined(t, "the host has a file on the way", api.ErrClash)(embed.Join(s, nested, nil, commit(t, s, "h", files{"a", "1"}), two, by))
	if !s.Has(one) || !s.Has(two) {
		t.Error("what was made does not stay")
	}
	inner := mapOf(t, keep("a"), drop("a/x/y"))
	onto := commit(t, s, "onto", files{"a/x/y/z", "1", "a/x/w", "1"})
	split.Of(s, inner, onto)
	own := idOf(commitOf("onto", made(t, s, "a/x/w", "1")))
	file := commit(t, s, "file", files{"a/x", "1"}, commit(t, s, "ahead", files{"a/x/w", "2"}, own))
	wantNotJoined(t, "the side has a file on the way", api.ErrClash)(embed.Join(s, inner, nil, onto, file, by))
	if ahead := idOf(commitOf("ahead", made(t, s, "a/x/y/z", "1", "a/x/w", "2"), onto)); !s.Has(ahead) {
		t.Error("what was made ahead does not stay")
	}

	down := mapOf(t, move("", "sub"))
	wantNotJoined(t, "a file at the root", api.ErrClash)(embed.Join(s, down, nil, 0, commit(t, s, "root", files{"sub", "1"}, commit(t, s, "fine", files{"sub/x", "1"})), by))
	far := mapOf(t, move(long(), ""))
	near := commit(t, s, "near", files{"x", "1"})
	wantNotJoined(t, "too long", api.ErrLong)(embed.Join(s, far, nil, 0, commit(t, s, "far", files{"xx", "1"}, near), by))
	if !s.Has(idOf(commitOf("near", made(t, s, long()+"/x", "1")))) {
		t.Error("what was made ahead does not stay")
	}
	deep := mapOf(t, move(strings.Repeat("d/", 15)+"d", "m"))
	wantNotJoined(t, "too deep", api.ErrLong)(embed.Join(s, deep, nil, 0, commit(t, s, "deep", files{"m/x", "1"}), by))
	wantJoined(t, "as deep as may be", api.Joined{
		Head: idOf(commitOf("m", made(t, s, strings.Repeat("d/", 15)+"d", "1"))),
		Made: pairs(pair(commit(t, s, "m", files{"m", "1"}), idOf(commitOf("m", made(t, s, strings.Repeat("d/", 15)+"d", "1"))))),
	})(embed.Join(s, deep, nil, 0, commit(t, s, "m", files{"m", "1"}), by))
}

// P20.3: trees with as many entries as may be, and one more.
func TestJoinEntries(t *testing.T) {
	s, _ := open(t)
	m, by := mapOf(t, keep("a")), text("join")
	one := commit(t, s, "1", files{"a", "1"})
	for n, asked := range map[int]api.Errno{api.MaxEntries - 1: api.OK, api.MaxEntries: api.ErrLong} {
		var entries []api.Entry
		for k := range n {
			entries = append(entries, file("b"+string(rune('0'+k/100))+string(rune('0'+k/10%10))+string(rune('0'+k%10)), putBlob(t, s, "1")))
		}
		h := put(t, s, commitOf("h", putTree(t, s, entries...)))
		told, err := embed.Join(s, m, nil, h, one, by)
		if err != asked || (told.Merge != 0) != (err == api.OK) {
			t.Errorf("%d: %x %d", n, told, err)
		}
		if err == api.OK {
			wantCarved(t, s, m, told.Head, one)
		}
	}
}

// P20.3, P20.4: a host and a side that go on by turns.
func TestJoinByTurns(t *testing.T) {
	s, _ := open(t)
	m := mapOf(t, move("lib", ""), drop("lib/own"))
	h := commit(t, s, "h", files{"b", "1", "lib/own", "1"})
	side := commit(t, s, "s", files{"x", "1"})
	for n := range 12 {
		at := string(rune('a' + n))
		told, err := embed.Join(s, m, nil, h, side, text(at))
		if err != api.OK || (told.Merge != 0) != (n == 0) {
			t.Fatalf("%d: %x %d", n, told, err)
		}
		wantCarved(t, s, m, told.Head, side, told.Made...)
		root, _ := s.Commit(told.Head)
		for _, path := range []string{"b", "lib/own"} {
			ahead, _ := s.Commit(h)
			was, _ := tree.File(s, ahead.Tree, path)
			if now, err := tree.File(s, root.Tree, path); string(now) != string(was) || err != api.OK {
				t.Errorf("%d: %s is %q %d, not %q", n, path, now, err, was)
			}
		}
		h = commit(t, s, "h"+at, files{"b", at, "lib/own", at, "lib/x", at}, told.Head)
		u, err := split.Of(s, m, h)
		if err != api.OK {
			t.Fatal(err)
		}
		side = commit(t, s, "s"+at, files{"x", at, "y/z", at}, u.Head())
		if n%3 == 0 {
			side = commit(t, s, "t"+at, files{"x", at, "y/z", "1"}, side, u.Head())
			side = commit(t, s, "u"+at, files{"x", at, "y/z", at}, commit(t, s, "v"+at, files{"v", at}), u.Head())
		}
	}
}
