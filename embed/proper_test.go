package embed_test

import (
	"strings"
	"testing"

	"espalier/api"
	"espalier/embed"
	"espalier/pathmap"
	"espalier/split"
	"espalier/store"
)

// selfRing puts in a commit that is its own parent, by a date that was chosen for its id.
func selfRing(t *testing.T, s *store.Store) api.Id {
	t.Helper()
	c := api.Commit{Tree: putTree(t, s), Parents: list(2), Date: -3590087674594721765, Text: "self"}
	if id := put(t, s, c); id != 2 {
		t.Fatalf("the commit has the id %x", id)
	}
	return 2
}

// long is a path of 198 bytes, behind which one name of one byte may stand.
func long() string {
	return strings.Repeat(strings.Repeat("l", 32)+"/", 5) + strings.Repeat("l", 31) + "/l"
}

// P20.1: histories in which each commit says something, and all of whose paths are images.
func TestProper(t *testing.T) {
	s, _ := open(t)
	m := mapOf(t, keep("src"), drop("src/old"), keep("src/old/x"), move("docs/api", "man"))
	one := commit(t, s, "1", files{"src/a", "1"})
	two := commit(t, s, "2", files{"src/a", "1", "man/c", "1"}, one)
	gone := commit(t, s, "gone", nil, two)
	again := commit(t, s, "again", files{"src/old/x/y", "1"}, gone)
	root := commit(t, s, "root", files{"man/c", "1"})
	like := commit(t, s, "like", files{"man/c", "1"}, again, root)
	bare := commit(t, s, "bare", nil, like, commit(t, s, "other", files{"man", "2"}))
	before := s.Len()
	for _, side := range list(one, two, gone, again, root, like, bare) {
		wantErr(t, "Proper", api.OK, embed.Proper(s, m, side))
	}
	if s.Len() != before {
		t.Error("something is put in")
	}
}

// P20.1: an image counts, however long the row is of which it is one.
func TestProperLong(t *testing.T) {
	s, _ := open(t)
	m := mapOf(t, move(long(), ""))
	side := commit(t, s, "long", files{"ab", "1", strings.Repeat("a/", 15) + "a", "2"}, commit(t, s, "short", files{"a", "1"}))
	wantErr(t, "Proper", api.OK, embed.Proper(s, m, side))
	deep := mapOf(t, move(strings.Repeat("d/", 15)+"d", "x"))
	wantErr(t, "Proper of what goes back to seventeen names", api.OK, embed.Proper(s, deep, commit(t, s, "deep", files{"x/y", "1"})))
	wantErr(t, "Proper of no image", api.ErrImproper, embed.Proper(s, deep, commit(t, s, "none", files{"y", "1"})))
}

// improper is sides that are not proper by keep a, each in one of the ways, told by what is wrong with it.
func improper(t *testing.T, s *store.Store) map[string]api.Id {
	t.Helper()
	one := commit(t, s, "1", files{"a/x", "1"})
	two := commit(t, s, "2", files{"a/x", "2"}, one)
	side := commit(t, s, "side", files{"a/x", "1", "a/y", "1"}, one)
	empty := commit(t, s, "empty", nil)
	same := commit(t, s, "same", files{"a/x", "2"}, two)
	outside := commit(t, s, "outside", files{"a/x", "3", "b", "1"}, two)
	three := files{"a/x", "3"}
	return map[string]api.Id{
		"nothing in it":                       empty,
		"nothing in its parent":               commit(t, s, "3", three, empty),
		"nothing in one of its parents":       commit(t, s, "3", three, two, empty),
		"nothing new":                         same,
		"nothing new in its parent":           commit(t, s, "3", three, same),
		"nothing new in one of its parents":   commit(t, s, "3", three, side, same),
		"a parent twice":                      commit(t, s, "3", three, two, two),
		"a parent twice, not side by side":    commit(t, s, "3", three, two, side, two),
		"a parent twice in its parent":        commit(t, s, "4", files{"a/x", "4"}, commit(t, s, "3", three, two, two)),
		"a parent of another one":             commit(t, s, "3", three, one, two),
		"a parent of another one, behind it":  commit(t, s, "3", three, two, one),
		"a parent of a parent of another one": commit(t, s, "3", three, side, commit(t, s, "3", three, two), one),
		"a file outside":                      outside,
		"a file outside alone":                commit(t, s, "b", files{"b", "1"}),
		"a file outside in its parent":        commit(t, s, "3", three, outside),
		"a file outside in one of them":       commit(t, s, "4", files{"a/x", "4"}, side, commit(t, s, "3", three, outside)),
		"a file outside at the beginning":     commit(t, s, "4", files{"a/x", "4"}, commit(t, s, "3", three, commit(t, s, "b", files{"b", "1"}))),
	}
}

// P20.1: a side that is not proper in each of the ways; what was put in on the way stays.
func TestImproper(t *testing.T) {
	s, _ := open(t)
	m := mapOf(t, keep("a"))
	for what, side := range improper(t, s) {
		wantErr(t, what, api.ErrImproper, embed.Proper(s, m, side))
		// Files outside are found by what lets them through.
		if u, err := split.Of(s, pathmap.Trivial(), side); err != api.OK || !s.Has(u.Head()) && u.Head() != 0 {
			t.Errorf("%s: %d, %x is not put in", what, err, u.Head())
		}
		asked := api.ErrImproper
		if strings.HasPrefix(what, "a file outside") {
			asked = api.OK
		}
		wantErr(t, what+", by Trivial", asked, embed.Proper(s, pathmap.Trivial(), side))
		wantErr(t, what+", by two rules", asked, embed.Proper(s, mapOf(t, keep("a"), keep("b")), side))
	}
	pruned := commit(t, s, "pruned", files{"a/x", "9"}, commit(t, s, "same", files{"a/x", "1"}, commit(t, s, "1", files{"a/x", "1"})))
	own := ownOf(t, s, pruned, made(t, s, "a/x", "9"), commit(t, s, "1", files{"a/x", "1"}))
	if s.Has(own) {
		t.Fatal("it is there already")
	}
	wantErr(t, "pruned", api.ErrImproper, embed.Proper(s, m, pruned))
	if !s.Has(own) {
		t.Error("what stands in is not put in")
	}
}

// P20.1: paths that are no images by rules of each kind; of no rules nothing is.
func TestImproperByRules(t *testing.T) {
	s, _ := open(t)
	rules := []api.Rule{keep("src"), drop("src/old"), keep("src/old/x"), move("docs/api", "man")}
	for path, asked := range map[string]api.Errno{
		"src": api.OK, "src/a": api.OK, "src/older": api.OK, "src/old/x": api.OK, "src/old/x/a": api.OK, "man": api.OK, "man/a/b": api.OK,
		"src/old": api.ErrImproper, "src/old/y": api.ErrImproper, "docs/api": api.ErrImproper, "docs/api/a": api.ErrImproper, "docs": api.ErrImproper, "other": api.ErrImproper, "mans": api.ErrImproper,
	} {
		side := commit(t, s, "1", files{path, "1"})
		next := commit(t, s, "2", files{"src/a", "2"}, side)
		for _, id := range list(side, next) {
			wantErr(t, path, asked, embed.Proper(s, mapOf(t, rules...), id))
			wantErr(t, path+", by Trivial", api.OK, embed.Proper(s, pathmap.Trivial(), id))
			wantErr(t, path+", by none", api.ErrImproper, embed.Proper(s, mapOf(t), id))
		}
	}
}

// ill is what split.Of refuses by Trivial, and what it answers.
type ill struct {
	what  string
	id    api.Id
	asked api.Errno
}

// ills is histories that can't be read, whose trees can't be projected, and each as a parent of one that could be.
func ills(t *testing.T, s *store.Store) []ill {
	t.Helper()
	blob, inner := putBlob(t, s, "1"), made(t, s, "x", "1")
	deep := inner
	for range 16 {
		deep = putTree(t, s, under("d", deep))
	}
	treed := func(id api.Id) api.Id { return put(t, s, commitOf("treed", id)) }
	all := []ill{
		{"nothing", missing, api.ErrNone},
		{"a blob", blob, api.ErrKind},
		{"a tree", inner, api.ErrKind},
		{"a ring", selfRing(t, s), api.ErrRing},
		{"a tree that is not there", treed(missing), api.ErrNone},
		{"a tree that is a blob", treed(blob), api.ErrKind},
		{"a blob that is not there", treed(putTree(t, s, file("x", missing))), api.ErrNone},
		{"a blob that is a tree", treed(putTree(t, s, file("x", inner))), api.ErrKind},
		{"a folder that is a blob", treed(putTree(t, s, under("x", blob))), api.ErrKind},
		{"an empty folder", treed(putTree(t, s, under("x", putTree(t, s)))), api.ErrBroken},
		{"paths that are too long", treed(deep), api.ErrLong},
	}
	for _, i := range all {
		good := commit(t, s, "good", files{"a/x", "1"})
		child := commit(t, s, "child", files{"a/x", "2"}, good, i.id)
		all = append(all, ill{i.what + ", come to", child, i.asked}, ill{i.what + ", come to later", commit(t, s, "later", files{"a/x", "3"}, child), i.asked})
	}
	return append(all, ill{"the id 0", 0, api.ErrNone})
}

// P20.1: split.Of's error, ahead of all by which a side is not proper.
func TestProperErrors(t *testing.T) {
	s, _ := open(t)
	m := mapOf(t, keep("a"))
	wrong := improper(t, s)
	for _, i := range ills(t, s) {
		wantErr(t, i.what, i.asked, embed.Proper(s, m, i.id))
		wantErr(t, i.what+", by none", i.asked, embed.Proper(s, mapOf(t), i.id))
		if i.id == 0 {
			continue
		}
		for what, id := range wrong {
			wantErr(t, i.what+" behind "+what, i.asked, embed.Proper(s, m, commit(t, s, "both", files{"b", "1"}, id, i.id)))
			wantErr(t, i.what+" ahead of "+what, i.asked, embed.Proper(s, m, commit(t, s, "both", files{"b", "1"}, i.id, id)))
		}
	}
}
