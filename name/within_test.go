package name_test

import (
	"math/rand"
	"slices"
	"strings"
	"testing"

	"espalier/api"
	"espalier/name"
)

// wantRest asks In, too, as it says the same.
func wantRest(t *testing.T, path, within, rest string, lies bool) {
	t.Helper()
	if text, got := name.Rest(path, within); got != lies || text != rest {
		t.Errorf("Rest(%q, %q): %q, %v, not %q, %v", path, within, text, got, rest, lies)
	}
	if got := name.In(path, within); got != lies {
		t.Errorf("In(%q, %q): %v", path, within, got)
	}
}

func wantMove(t *testing.T, path, from, to, moved string, err api.Errno) {
	t.Helper()
	if text, got := name.Move(path, from, to); got != err || text != moved {
		t.Errorf("Move(%q, %q, %q): %q, error %d, not %q, %d", path, from, to, text, got, moved, err)
	}
}

func wantCommon(t *testing.T, a, b, common string) {
	t.Helper()
	if text := name.Common(a, b); text != common {
		t.Errorf("Common(%q, %q): %q, not %q", a, b, text, common)
	}
	if text := name.Common(b, a); text != common {
		t.Errorf("Common(%q, %q): %q, not %q", b, a, text, common)
	}
}

// The chapter's rows of In, Rest, Move and Common.
func TestExamplesWithin(t *testing.T) {
	wantRest(t, "ab/c", "a", "", false)
	wantRest(t, "a/b", "a", "b", true)
	wantRest(t, "a", "", "a", true)
	wantRest(t, "a/b/c", "a", "b/c", true)
	wantRest(t, "a", "a", "", true)
	wantRest(t, "ab", "a", "", false)
	wantMove(t, "a/b", "a", "x/y", "x/y/b", api.OK)
	wantMove(t, "a", "a", "", "", api.OK)
	wantMove(t, "b", "a", "x", "", api.ErrPath)
	wantCommon(t, "a/b/c", "a/bc", "a")
}

// P4.4: the root, paths that begin alike, what is no path.
func TestRestEdges(t *testing.T) {
	wantRest(t, "", "", "", true)
	wantRest(t, "", "a", "", false)
	wantRest(t, "a", "a/b", "", false)
	wantRest(t, "a", "ab", "", false)
	wantRest(t, "a.b", "a", "", false)
	wantRest(t, "a/b", "b", "", false)
	wantRest(t, "a/bc/d", "a/b", "", false)
	wantRest(t, "a/b/c", "a/b/c", "", true)
	wantRest(t, row(16), row(15), "a", true)
	for _, text := range []string{"/", "a/", "//", "a//b", ".", "a/..", "\xff", row(17), letters(201)} {
		wantRest(t, text, "", "", false)
		wantRest(t, text, text, "", false)
		wantRest(t, "a/b", text, "", false)
		wantRest(t, text, "a", "", false)
	}
}

// P4.4: the errors in their order, and the limits of what a path is moved to.
func TestMoveEdges(t *testing.T) {
	wantMove(t, "", "", "", "", api.OK)
	wantMove(t, "", "", "x", "x", api.OK)
	wantMove(t, "a/b", "", "x", "x/a/b", api.OK)
	wantMove(t, "a/b", "a/b", "x", "x", api.OK)
	wantMove(t, "a/b", "a", "", "b", api.OK)
	wantMove(t, "a/b/c", "a/b", "a", "a/c", api.OK)
	wantMove(t, "a", "a/b", "x", "", api.ErrPath)
	wantMove(t, "ab", "a", "x", "", api.ErrPath)
	wantMove(t, "", "a", "x", "", api.ErrPath)

	wantMove(t, "/", row(17), row(17), "", api.ErrName)
	wantMove(t, row(17), "/", "/", "", api.ErrLong)
	wantMove(t, "b", "/", row(17), "", api.ErrName)
	wantMove(t, "b", row(17), "/", "", api.ErrLong)
	wantMove(t, "b", "a", "/", "", api.ErrName)
	wantMove(t, "b", "a", row(17), "", api.ErrLong)
	wantMove(t, "b", "a", row(16), "", api.ErrPath)

	wantMove(t, "x/b", "x", row(15), row(15)+"/b", api.OK)
	wantMove(t, "x/b", "x", row(16), "", api.ErrLong)
	wantMove(t, "x", "x", row(16), row(16), api.OK)
	wantMove(t, row(16), row(8), row(9), "", api.ErrLong)
	front := strings.Repeat(letters(32)+"/", 5) + letters(31) // 196 bytes
	wantMove(t, "x/abc", "x", front, front+"/abc", api.OK)
	wantMove(t, "x/abcd", "x", front, "", api.ErrLong)
}

// P4.5: whole names alone are common; of what is no path nothing is.
func TestCommonEdges(t *testing.T) {
	wantCommon(t, "", "", "")
	wantCommon(t, "", "a", "")
	wantCommon(t, "a", "b", "")
	wantCommon(t, "a", "ab", "")
	wantCommon(t, "a", "a", "a")
	wantCommon(t, "a/b", "a", "a")
	wantCommon(t, "a/b/x", "a/b/y", "a/b")
	wantCommon(t, "a/x/c", "a/y/c", "a")
	wantCommon(t, "x/b", "y/b", "")
	wantCommon(t, "aé", "aè", "") // alike in their first bytes
	wantCommon(t, row(16), row(12)+"/b", row(12))
	wantCommon(t, row(16), row(16), row(16))
	for _, text := range []string{"/", "a/", "a//b", "a/..", "a/\xff", row(17), letters(201)} {
		wantCommon(t, text, text, "")
		wantCommon(t, text, "a", "")
		wantCommon(t, text, "a/b", "")
	}
}

// begins says whether some names begin with others.
func begins(names, with []string) bool {
	return len(names) >= len(with) && slices.Equal(names[:len(with)], with)
}

// pathsOf is all paths among the short texts of few bytes, many of which lie in each other.
func pathsOf(of string, most int) []string {
	var list []string
	for text := range shortTexts(of, most) {
		if pathOf(text).Err == api.OK {
			list = append(list, text)
		}
	}
	slices.Sort(list)
	return list
}

// P4.4, P4.5: each two short paths, and no paths beside them, held against the model.
func TestWithinByModel(t *testing.T) {
	texts := append(pathsOf("ab/.", 5), "/", "a/", "/a", "a//b", ".", "a/..", "\xff", row(17))
	for _, a := range texts {
		for _, b := range texts {
			one, two := namesOf(a), namesOf(b)
			both := pathOf(a).Err == api.OK && pathOf(b).Err == api.OK
			if both && begins(one, two) {
				wantRest(t, a, b, strings.Join(one[len(two):], "/"), true)
			} else {
				wantRest(t, a, b, "", false)
			}
			n := 0
			for both && n < len(one) && n < len(two) && one[n] == two[n] {
				n++
			}
			if common := name.Common(a, b); common != strings.Join(one[:n], "/") {
				t.Errorf("Common(%q, %q): %q", a, b, common)
			}
		}
	}
}

// P4.4: many moves held against the model.
func TestMoveByModel(t *testing.T) {
	r := rand.New(rand.NewSource(44))
	for range 30000 {
		path, to := randomText(r), randomText(r)
		from := randomText(r)
		if pieces := strings.Split(path, "/"); r.Intn(4) > 0 {
			from = strings.Join(pieces[:r.Intn(len(pieces)+1)], "/")
		}
		moved, err := moveOf(path, from, to)
		wantMove(t, path, from, to, moved, err)
	}
}

func moveOf(path, from, to string) (string, api.Errno) {
	for _, text := range []string{path, from, to} {
		if spot := pathOf(text); spot.Err != api.OK {
			return "", spot.Err
		}
	}
	names, ahead := namesOf(path), namesOf(from)
	if !begins(names, ahead) {
		return "", api.ErrPath
	}
	moved := strings.Join(slices.Concat(namesOf(to), names[len(ahead):]), "/")
	if pathOf(moved).Err != api.OK {
		return "", api.ErrLong
	}
	return moved, api.OK
}
