package name_test

import (
	"math/rand"
	"slices"
	"strings"
	"testing"

	"espalier/api"
	"espalier/name"
)

func wantCompare(t *testing.T, a, b string, asked int) {
	t.Helper()
	if got := name.Compare(a, b); got != asked {
		t.Errorf("Compare(%q, %q): %d, not %d", a, b, got, asked)
	}
	if got := name.Compare(b, a); got != -asked {
		t.Errorf("Compare(%q, %q): %d, not %d", b, a, got, -asked)
	}
}

// The chapter's rows of Compare.
func TestExamplesCompare(t *testing.T) {
	wantCompare(t, "a/b", "a.b", -1)
	wantCompare(t, "a", "a/b", -1)
	wantCompare(t, "b", "a/b", 1)
	wantCompare(t, "/", "z", 1)
}

// P4.5: a row that rises, paths first; each of it is held against each other one.
func TestCompareRow(t *testing.T) {
	paths := []string{
		"", " ", " /x", "  ", "!", "...", "a", "a/ ", "a/a", "a/a/z", "a/a!", "a/b", "a/é", "a ", "a /z", "a.b",
		"a0", "aa", "aa/a", "b", "b/a", "é", "\ufffd", "\U0001f34f",
	}
	noPaths := []string{"\x00", "..", "/", "/a", "a/", "a//b", row(17), letters(33), "\x7f", "\x80", "\xff"}
	texts := slices.Concat(paths, noPaths)
	for i, a := range texts {
		wantCompare(t, a, a, 0)
		for _, b := range texts[i+1:] {
			wantCompare(t, a, b, -1)
		}
	}
}

// compareOf is the chapter's order, written down once more by names.
func compareOf(a, b string) int {
	one, two := pathOf(a).Err == api.OK, pathOf(b).Err == api.OK
	switch {
	case one && !two:
		return -1
	case two && !one:
		return 1
	case !one:
		return strings.Compare(a, b)
	}
	return slices.Compare(namesOf(a), namesOf(b))
}

// P4.5: each two short texts held against the model, and longer ones.
func TestCompareByModel(t *testing.T) {
	var texts []string
	for text := range shortTexts("ab/ \xff", 4) {
		texts = append(texts, text)
	}
	slices.Sort(texts)
	for _, a := range texts {
		for _, b := range texts {
			if got := name.Compare(a, b); got != compareOf(a, b) {
				t.Errorf("Compare(%q, %q): %d", a, b, got)
			}
		}
	}
	r := rand.New(rand.NewSource(45))
	for range 30000 {
		a, b := randomText(r), randomText(r)
		if n := r.Intn(len(a) + 1); r.Intn(2) == 0 {
			b = a[:n] + b // alike for a while
		}
		wantCompare(t, a, b, compareOf(a, b))
	}
}

// P4.6: an order of all texts: of three that rise by twos the outer two rise, and none is another one's equal but itself.
func TestCompareIsOrder(t *testing.T) {
	texts := []string{"", "a", "a/b", "a.b", "a/", "/", "b", "a b", "a/b/c", "ab", "\xff", "..", row(17), "a/.", "a/b.c"}
	for _, a := range texts {
		for _, b := range texts {
			if (name.Compare(a, b) == 0) != (a == b) || name.Compare(a, b) != -name.Compare(b, a) {
				t.Errorf("Compare(%q, %q): %d, and %d", a, b, name.Compare(a, b), name.Compare(b, a))
			}
			for _, c := range texts {
				if name.Compare(a, b) < 0 && name.Compare(b, c) < 0 && name.Compare(a, c) >= 0 {
					t.Errorf("%q, %q, %q rise by twos alone", a, b, c)
				}
			}
		}
	}
}

// P4.6: what lies in a path stands behind it, and ahead of each path behind it that does not.
func TestWhatLiesInStandsTogether(t *testing.T) {
	paths := pathsOf("ab/.", 5)
	r := rand.New(rand.NewSource(46))
	r.Shuffle(len(paths), func(i, k int) { paths[i], paths[k] = paths[k], paths[i] })
	slices.SortFunc(paths, name.Compare)
	for k, path := range paths {
		left := false
		for place, other := range paths {
			switch lies := name.In(other, path); {
			case lies && (place < k || left):
				t.Errorf("%q lies in %q, and stands apart", other, path)
			case !lies && place > k:
				left = true
			}
		}
	}
}

// P4.6: there and back.
func TestThereAndBack(t *testing.T) {
	r := rand.New(rand.NewSource(47))
	for range 30000 {
		path, other := randomText(r), randomText(r)
		if string([]rune(path)) != path && name.Path(path).Err == api.OK {
			t.Errorf("%q is changed by runes and back, and is a path", path)
		}
		names, err := name.Split(path)
		if err != api.OK {
			continue
		}
		wantMake(t, names, path, api.OK)
		wantSplit(t, path, api.OK, names...)
		if dir, last, err := name.Dir(path); err == api.OK {
			wantJoin(t, dir, last, path, api.OK)
			wantRest(t, path, dir, last, true)
		} else if path != "" {
			t.Errorf("Dir(%q): error %d", path, err)
		}
		wantRest(t, path, path, "", true)
		wantRest(t, path, "", path, true)
		if whole, err := name.Join(path, other); err == api.OK {
			wantRest(t, whole, path, other, true)
		}
		from := strings.Join(names[:r.Intn(len(names)+1)], "/")
		if moved, err := name.Move(path, from, other); err == api.OK {
			wantMove(t, moved, other, from, path, api.OK)
		}
	}
}

// P4.6: In is an order.
func TestInIsOrder(t *testing.T) {
	paths := pathsOf("a/.", 5)
	for _, a := range paths {
		for _, b := range paths {
			if !name.In(a, b) {
				continue
			}
			if name.In(b, a) && a != b {
				t.Errorf("%q and %q lie in each other", a, b)
			}
			for _, c := range paths {
				if name.In(b, c) && !name.In(a, c) {
					t.Errorf("%q lies in %q, that in %q, the first not in the third", a, b, c)
				}
			}
		}
	}
}
