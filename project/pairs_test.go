package project_test

import (
	"slices"
	"testing"

	"espalier/api"
	"espalier/pathmap"
	"espalier/project"
)

// P15.3: in the tree's order, which is not that of the images, and not that of the paths' bytes.
func TestPairs(t *testing.T) {
	s, d := open(t)
	m := mapOf(t, move("a", "z"), drop("a/b"), move("a/b/c", "z/b/c"), move("a.", "y"), move("e/f", "b"), keep("k"))
	id := made(t, s, "a/b/c/1", "1", "a/b/d", "2", "a/x/1", "3", "a/x/2", "4", "a.", "5", "e/f", "6", "e/g", "7", "k/l/m", "8")
	before, writes := s.Len(), d.Writes()
	d.Cut(0)
	for range 2 {
		wantPairs(t, s, m, id, "a/b/c/1", "z/b/c/1", "a/x/1", "z/x/1", "a/x/2", "z/x/2", "a.", "y", "e/f", "b", "k/l/m", "k/l/m")
	}
	wantPairs(t, s, mapOf(t), id)
	wantPairs(t, s, mapOf(t, keep("z")), id)
	wantPairs(t, s, mapOf(t, move("e/f", ""), drop("e/f/a")), id, "e/f", "")
	wantSince(t, "Pairs", s, before)
	if d.Writes() != writes {
		t.Error("Pairs wrote something")
	}
}

// R6: Pairs left early at each place, and gone through again; what there is when that begins is told.
func TestPairsAgain(t *testing.T) {
	s, _ := open(t)
	m, id := chapter(t), made(t, s, "docs/api/c", "1", "src/a/b", "2", "src/a/c", "3", "src/d", "4", "z", "5")
	all := pairs(s, m, id)
	if len(all) != 8 {
		t.Fatalf("Pairs: %q", all)
	}
	seq := project.Pairs(s, m, id)
	for most := range 5 {
		var told []string
		for path, image := range seq {
			if len(told) == 2*most {
				break
			}
			told = append(told, path, image)
		}
		if !slices.Equal(told, all[:2*most]) {
			t.Errorf("the first %d: %q, not %q", most, told, all[:2*most])
		}
	}
	for range seq { // one within another
		wantPairs(t, s, m, id, all...)
	}

	later := api.Tree{Entries: []api.Entry{file("src", digit("9"))}}
	seq = project.Pairs(s, m, idOf(later))
	for path, image := range seq {
		t.Errorf("of what is not there: %q %q", path, image)
	}
	putBlob(t, s, "9")
	put(t, s, later)
	count := 0
	for path, image := range seq {
		if count++; path != "src" || image != "src" {
			t.Errorf("of what is there now: %q %q", path, image)
		}
	}
	if count != 1 {
		t.Errorf("of what is there now: %d pairs", count)
	}
}

// P15.3: the same files with images, with the same blobs; what has none is no matter, and nothing is put in.
func TestAlike(t *testing.T) {
	s, d := open(t)
	m := mapOf(t, keep("a"), drop("a/b"), keep("a/b/c"), move("d", "e"))
	base := []string{"a/1", "1", "a/b/2", "2", "a/b/c/3", "3", "a/f/4", "4", "d", "5", "z/z", "6"}
	id := made(t, s, base...)
	for _, c := range []struct {
		other []string
		asked bool
	}{
		{base, true},
		{[]string{"a/1", "1", "a/b/c/3", "3", "a/f/4", "4", "d", "5"}, true},
		{[]string{"a/1", "1", "a/b/2", "9", "a/b/c/3", "3", "a/b/x/y", "8", "a/f/4", "4", "d", "5", "z", "6"}, true},
		{[]string{"a/1", "2", "a/b/c/3", "3", "a/f/4", "4", "d", "5"}, false},
		{[]string{"a/1", "1", "a/b/c/3", "4", "a/f/4", "4", "d", "5"}, false},
		{[]string{"a/1", "1", "a/b/c", "3", "a/f/4", "4", "d", "5"}, false},
		{[]string{"a/1", "1", "a/b/c/3", "3", "a/f/4", "4"}, false},
		{[]string{"a/1", "1", "a/b/c/3", "3", "a/f/4", "4", "d/e", "5"}, false},
		{[]string{"a/1", "1", "a/b/c/3", "3", "a/f/4", "4", "a/f/5", "4", "d", "5"}, false},
		{[]string{"a/1", "1", "a/b/c/3", "3", "a/g/4", "4", "d", "5"}, false},
		{[]string{"a/b/c/3", "3", "a/f/4", "4", "d", "5"}, false},
		{[]string{"a", "1", "d", "5"}, false},
		{[]string{"z/z", "6"}, false},
		{nil, false},
	} {
		other := made(t, s, c.other...)
		before, writes := s.Len(), d.Writes()
		wantSaid(t, "Alike", c.asked)(project.Alike(s, m, id, other))
		wantSaid(t, "Alike, the other way round", c.asked)(project.Alike(s, m, other, id))
		wantSaid(t, "Alike by no rules", true)(project.Alike(s, mapOf(t), id, other))
		wantSaid(t, "Alike by Trivial", other == id)(project.Alike(s, pathmap.Trivial(), id, other))
		wantSince(t, "Alike", s, before)
		if d.Writes() != writes {
			t.Error("Alike wrote something")
		}
	}
	outer, inner := made(t, s, "a/b", "1"), made(t, s, "a/b/x", "1")
	wantSaid(t, "Alike where a folder without images is no file", true)(project.Alike(s, m, outer, inner))
}
