package project_test

import (
	"slices"
	"strings"
	"testing"

	"espalier/api"
	"espalier/name"
	"espalier/pathmap"
	"espalier/project"
	"espalier/store"
)

// path is a path of that many bytes in as few names as may be; or, if that is 0, of that many names.
func path(bytes, names int) string {
	if bytes == 0 {
		return strings.TrimSuffix(strings.Repeat("l/", names), "/")
	}
	var parts []string
	for bytes > 0 {
		part := min(bytes, api.MaxName)
		if bytes == api.MaxName+1 {
			part-- // a stroke can't be the last byte
		}
		parts = append(parts, strings.Repeat("l", part))
		bytes -= part + 1
	}
	return strings.Join(parts, "/")
}

// numbered is that many files of one blob.
func numbered(n int, id api.Id) []api.Entry {
	var entries []api.Entry
	for k := range n {
		entries = append(entries, file(string([]byte{'0' + byte(k/100), '0' + byte(k/10%10), '0' + byte(k%10)}), id))
	}
	return entries
}

func TestPathsOfTests(t *testing.T) {
	for n := 1; n <= 200; n++ {
		if p := path(n, 0); len(p) != n || name.Path(p) != (api.Spot{}) {
			t.Errorf("%q is no path of %d bytes", p, n)
		}
	}
}

// P15.1, P15.3: images of MaxDepth names and of MaxPath bytes, and of one more; as files, in folders that go over whole, and beside rules.
func TestOfLong(t *testing.T) {
	s, d := open(t)
	for _, c := range []struct {
		to, fits, over string
	}{
		{path(0, 15), "a", "a/a"},
		{path(0, 14), "a/b", "a/b/c"},
		{path(0, 2), path(0, 14), path(0, 14) + "/a"},
		{path(198, 0), "a", "ab"},
		{path(197, 0), "é", "éa"},
		{path(194, 0), "a/b/c", "a/b/cd"},
		{path(100, 0), path(99, 0), path(99, 0) + "l"},
		{path(7, 0), path(192, 0), path(193, 0)},
	} {
		m, dropping := mapOf(t, move("m", c.to)), mapOf(t, move("m", c.to), drop("m/0"), drop("m/"+c.fits+"0"))
		if name.Path("m/"+c.over).Err != api.OK {
			t.Fatalf("%q is too long by itself", c.over)
		}
		fits, over := made(t, s, "m/"+c.fits, "1", "z", "2"), made(t, s, "m/"+c.over, "1", "z", "2")
		both := made(t, s, "m/"+c.over, "1", "m/0", "2", "m/1/1", "3")
		for _, m := range []*pathmap.Map{m, dropping} {
			wantFiles(t, s, "Of", c.to+"/"+c.fits, "1")(project.Of(s, m, fits))
			wantPairs(t, s, m, fits, "m/"+c.fits, c.to+"/"+c.fits)
			before := s.Len()
			wantErr(t, "Of of one more", api.ErrLong)(project.Of(s, m, over))
			wantErr(t, "Of of one more beside others", api.ErrLong)(project.Of(s, m, both))
			wantSince(t, "one more", s, before)
			wantPairs(t, s, m, over)
			wantFiles(t, s, "Outside", "z", "2")(project.Outside(s, m, over))
			wantSaid(t, "Alike", true)(project.Alike(s, m, over, made(t, s, "m/"+c.over, "1")))
			wantSaid(t, "Alike", false)(project.Alike(s, m, over, made(t, s, "m/"+c.over, "2")))
			wantSaid(t, "Alike", false)(project.Alike(s, m, over, made(t, s, "z", "2")))
		}
		without := mapOf(t, move("m", c.to), drop("m/"+c.over))
		wantFiles(t, s, "Of without what is too long", c.to+"/"+c.fits, "1")(project.Of(s, without, fits))
		wantFiles(t, s, "Of of nothing else")(project.Of(s, without, over))
	}
	m := mapOf(t, move("m", path(0, 15)))
	over := made(t, s, "m/a/b", "1")
	d.Cut(0)
	wantErr(t, "one more, cut", api.ErrLong)(project.Of(s, m, over))
}

// P15.1: what is highest and what is widest may be two files; what is not let through does not count.
func TestOfLongBeside(t *testing.T) {
	s, _ := open(t)
	high, wide := path(0, 10), path(150, 0)
	id := made(t, s, "m/h/"+high, "1", "m/w/"+wide, "2")
	for to, asked := range map[string]api.Errno{path(0, 5): api.OK, path(0, 6): api.ErrLong, path(47, 0): api.OK, path(48, 0): api.ErrLong, "": api.OK} {
		for _, rules := range [][]api.Rule{{move("m", to)}, {move("m", to), drop("m/x")}} {
			if _, err := project.Of(s, mapOf(t, rules...), id); err != asked {
				t.Errorf("Of to %q: %d, not %d", to, err, asked)
			}
		}
	}
	wantFiles(t, s, "without the highest", path(0, 6)+"/w/"+wide, "2")(project.Of(s, mapOf(t, move("m", path(0, 6)), drop("m/h")), id))
	wantFiles(t, s, "without the widest", path(48, 0)+"/h/"+high, "1")(project.Of(s, mapOf(t, move("m", path(48, 0)), drop("m/w")), id))
	wantPairs(t, s, mapOf(t, move("m", path(0, 6))), id, "m/w/"+wide, path(0, 6)+"/w/"+wide)
	wantPairs(t, s, mapOf(t, move("m", path(48, 0))), id, "m/h/"+high, path(48, 0)+"/h/"+high)
}

// P15.1, P15.3: of files of as many names the one with the most bytes counts for the whole, in whatever order they stand; Pairs tells those that fit.
func TestOfLongAbreast(t *testing.T) {
	s, _ := open(t)
	for _, short := range []string{"a", "z"} {
		id := made(t, s, "m/b/"+short, "1", "m/b/mmm", "2")
		for bytes, asked := range map[int]api.Errno{194: api.OK, 195: api.ErrLong, 196: api.ErrLong} {
			if _, err := project.Of(s, mapOf(t, move("m", path(bytes, 0))), id); err != asked {
				t.Errorf("Of to %d bytes: %d, not %d", bytes, err, asked)
			}
		}
		wantPairs(t, s, mapOf(t, move("m", path(196, 0))), id, "m/b/"+short, path(196, 0)+"/b/"+short)
		wantPairs(t, s, mapOf(t, move("m", path(197, 0))), id)
	}
	for _, most := range []string{path(200, 0), path(0, 16)} {
		id := made(t, s, most, "1", "a", "2")
		want(t, "Of by Trivial", id)(project.Of(s, pathmap.Trivial(), id))
		wantPairs(t, s, pathmap.Trivial(), id, "a", "a", most, most)
		want(t, "Back by Trivial", id)(project.Back(s, pathmap.Trivial(), id, id))
	}
}

// P15.2, P15.3: sources of MaxDepth names and of MaxPath bytes, and of one more.
func TestBackLong(t *testing.T) {
	s, d := open(t)
	for _, c := range []struct{ from, fits, over string }{
		{path(0, 15), "a", "a/a"},
		{path(0, 2), path(0, 14), path(0, 15)},
		{path(198, 0), "a", "ab"},
		{path(194, 0), "a/b/c", "a/b/cd"},
	} {
		base := made(t, s, c.from+"/"+c.fits, "1", "z", "2")
		for _, m := range []*pathmap.Map{mapOf(t, move(c.from, "m")), mapOf(t, move(c.from, "m"), drop(c.from+"/0")), mapOf(t, keep("z/y"), move(c.from, "m"))} {
			fits, over := made(t, s, "m/"+c.fits, "3"), made(t, s, "m/"+c.over, "3")
			wantFiles(t, s, "Back", c.from+"/"+c.fits, "3", "z", "2")(project.Back(s, m, base, fits))
			before := s.Len()
			wantErr(t, "Back of one more", api.ErrLong)(project.Back(s, m, base, over))
			wantSince(t, "one more", s, before)
			wantSaid(t, "Inside of one more", true)(project.Inside(s, m, over))
		}
	}
	long, file := path(0, 16), made(t, s, "m", "3")
	wantFiles(t, s, "Back of a file", long, "3", "z", "2")(project.Back(s, mapOf(t, move(long, "m")), made(t, s, "z", "2"), file))
	over := made(t, s, "m/a", "3")
	d.Cut(0)
	wantErr(t, "one more, cut", api.ErrLong)(project.Back(s, mapOf(t, move(long, "m")), over, over))
}

// huge is a tree of 256 entries that all lead to one tree, and so on, so many times, down to one.
func huge(t *testing.T, s *store.Store, id api.Id, times int) api.Id {
	t.Helper()
	for range times {
		entries := numbered(256, id)
		for k := range entries {
			entries[k].Folder = true
		}
		id = putTree(t, s, entries...)
	}
	return id
}

// R1, P15.5: trees with more files than can be gone through: what no rule divides is not gone into.
func TestHuge(t *testing.T) {
	s, _ := open(t)
	bottom := putTree(t, s, numbered(256, putBlob(t, s, "1"))...)
	id := putTree(t, s, folder("a", huge(t, s, bottom, 13)), folder("b", huge(t, s, bottom, 14)))
	rules := []api.Rule{keep("a"), drop("a/000/001/002"), move("b/000", "y/x")}
	for k := range 61 {
		deep := strings.Repeat("007/", 12) + string([]byte{'0' + byte(k/100), '0' + byte(k/10%10), '0' + byte(k%10)})
		rules = append(rules, drop("a/"+deep))
	}
	m := mapOf(t, rules...)
	of, err := project.Of(s, m, id)
	if err != api.OK {
		t.Fatalf("Of: %d", err)
	}
	out, err := project.Outside(s, m, id)
	if err != api.OK {
		t.Fatalf("Outside: %d", err)
	}
	want(t, "Back", id)(project.Back(s, m, out, of))
	want(t, "Back, the base", id)(project.Back(s, m, id, of))
	wantSaid(t, "Inside", true)(project.Inside(s, m, of))
	wantSaid(t, "Inside", false)(project.Inside(s, m, id))
	wantSaid(t, "Alike", true)(project.Alike(s, m, id, id))
	wantSaid(t, "Alike", false)(project.Alike(s, m, id, out))
	wantErr(t, "Of, too deep", api.ErrLong)(project.Of(s, mapOf(t, move("b", "y/x")), id))
	var told []string
	for path, image := range project.Pairs(s, m, id) {
		if told = append(told, path, image); len(told) == 4 {
			break
		}
	}
	first := "a" + strings.Repeat("/000", 13)
	if !slices.Equal(told, []string{first + "/000", first + "/000", first + "/001", first + "/001"}) {
		t.Errorf("the first of many Pairs: %q", told)
	}
}

// R1, P15.3: where of more files than can be gone through no image may be told, or few, Pairs ends.
func TestPairsHuge(t *testing.T) {
	s, _ := open(t)
	blob := putBlob(t, s, "1")
	bottom := putTree(t, s, numbered(256, blob)...)
	id := putTree(t, s, folder("a", huge(t, s, bottom, 14)), file("z", blob))
	wantPairs(t, s, mapOf(t, drop("a"), keep("z")), id, "z", "z")
	wantPairs(t, s, mapOf(t, keep("z"), move("a", "x/y")), id, "z", "z")
	wantPairs(t, s, mapOf(t, keep("z"), move("a", "x/y"), drop("a/000")), id, "z", "z")
	wantPairs(t, s, mapOf(t, move("", "x/y")), id, "z", "x/y/z")

	// Of two files at the bottom one would be too long, and the other one too deep.
	ends := putTree(t, s, folder("d", putTree(t, s, file("s", blob))), file(strings.Repeat("w", 32), blob))
	entries := []api.Entry{folder("000", huge(t, s, ends, 9)), file("q", blob), folder("r", huge(t, s, ends, 9))}
	id = putTree(t, s, folder("m", putTree(t, s, entries...)))
	to := "t/" + path(129, 0)
	wantPairs(t, s, mapOf(t, move("m", to)), id, "m/q", to+"/q")
}
