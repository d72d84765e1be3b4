package pathmap_test

import (
	"strings"
	"testing"

	"espalier/api"
	"espalier/pathmap"
)

func wantImage(t *testing.T, m *pathmap.Map, path, image string, err api.Errno) {
	t.Helper()
	if text, got := m.Image(path); text != image || got != err {
		t.Errorf("Image(%q): %q, %d, not %q, %d, by %s", path, text, got, image, err, told(m.Rules()))
	}
}

func wantSource(t *testing.T, m *pathmap.Map, image, path string, err api.Errno) {
	t.Helper()
	if text, got := m.Source(image); text != path || got != err {
		t.Errorf("Source(%q): %q, %d, not %q, %d, by %s", image, text, got, path, err, told(m.Rules()))
	}
}

// wantPair wants a path and its image, there and back.
func wantPair(t *testing.T, m *pathmap.Map, path, image string) {
	t.Helper()
	wantImage(t, m, path, image, api.OK)
	wantSource(t, m, image, path, api.OK)
}

// wantRule wants the rule of a path; the zero rule says that there is none.
func wantRule(t *testing.T, m *pathmap.Map, path string, asked api.Rule) {
	t.Helper()
	if r, there := m.Rule(path); r != asked || there != (asked != api.Rule{}) {
		t.Errorf("Rule(%q): %v, %v, not %v, by %s", path, r, there, asked, told(m.Rules()))
	}
}

// The chapter's rows of Image and Source.
func TestExamplesPaths(t *testing.T) {
	m := chapter(t)
	wantImage(t, m, "src/b", "src/b", api.OK)
	wantImage(t, m, "src/old", "", api.ErrNone)
	wantImage(t, m, "src/old/x/y", "src/old/x/y", api.OK)
	wantImage(t, m, "docs/api", "man", api.OK)
	wantImage(t, m, "docs/api/c", "man/c", api.OK)
	wantImage(t, m, "docs", "", api.ErrNone)
	wantImage(t, m, "a", "", api.ErrNone)
	wantSource(t, m, "man/c", "docs/api/c", api.OK)
	wantSource(t, m, "src/b", "src/b", api.OK)
	wantSource(t, m, "src/old/b", "", api.ErrNone)
	wantSource(t, m, "docs/api", "", api.ErrNone)
	wantSource(t, m, "man", "docs/api", api.OK)
	wantImage(t, mapOf(t, move("a", "b"), move("b", "a")), "a/x", "b/x", api.OK)
	wantImage(t, mapOf(t), "", "", api.ErrNone)
	wantImage(t, pathmap.Trivial(), "", "", api.OK)
	n := mapOf(t, move("a", ""))
	wantImage(t, n, "a/b", "b", api.OK)
	wantImage(t, n, "b", "", api.ErrNone)
	wantSource(t, n, "b", "a/b", api.OK)
}

// The chapter's row of Tops and Below.
func TestExamplesBelow(t *testing.T) {
	m := chapter(t)
	wantRules(t, "Tops", m.Tops(), move("docs/api", "man"), keep("src"))
	wantRules(t, "Below", m.Below("src"), drop("src/old"), keep("src/old/x"))
	wantRules(t, "Below", m.Below("src/old/x"))
}

// P14.3: the root, at both ends.
func TestRoot(t *testing.T) {
	m := mapOf(t, move("a/b", ""))
	wantPair(t, m, "a/b", "")
	wantPair(t, m, "a/b/a/b", "a/b")
	wantImage(t, m, "", "", api.ErrNone)
	wantImage(t, m, "a", "", api.ErrNone)
	n := mapOf(t, move("", "x/y"), drop("a"))
	wantPair(t, n, "", "x/y")
	wantPair(t, n, "x/y", "x/y/x/y")
	wantImage(t, n, "a/b", "", api.ErrNone)
	wantSource(t, n, "x/y/a", "", api.ErrNone)
	wantSource(t, n, "x/y/a/b", "", api.ErrNone)
	wantSource(t, n, "x", "", api.ErrNone)
	wantSource(t, n, "", "", api.ErrNone)
	wantPair(t, pathmap.Trivial(), "", "")
	wantPair(t, pathmap.Trivial(), row(16), row(16))
	wantSource(t, mapOf(t), "", "", api.ErrNone)
}

// P14.3: names that begin alike are other names, runes of several bytes among them.
func TestWholeNames(t *testing.T) {
	m := mapOf(t, move("aé", "è"), drop("aé/\ufffd"), keep("\ufffd"))
	wantPair(t, m, "aé", "è")
	wantPair(t, m, "aé/é/\ufffda", "è/é/\ufffda")
	wantPair(t, m, "\ufffd/a", "\ufffd/a")
	for _, path := range []string{"a", "aè", "aéa", "aé\ufffd", "aé.", "aé a", "\ufffda", "aé/\ufffd", "aé/\ufffd/a", "é", "è"} {
		wantImage(t, m, path, "", api.ErrNone)
	}
	for _, image := range []string{"é", "èa", "è/\ufffd", "è/\ufffd/x", "aé", "a", ""} {
		wantSource(t, m, image, "", api.ErrNone)
	}
}

// P14.1, P14.3, P14.4: runes that are alike in their first byte are other ones, in rows that go on behind them, too.
func TestWholeRunes(t *testing.T) {
	m := mapOf(t, move("é", "x"), keep("è/a"), drop("è/a/é/b"), move("ê/é", "é/é"), move("ê/è", "è/é"))
	wantSource(t, m, "ê/é", "", api.ErrNone)
	wantSource(t, m, "é/é/a", "ê/é/a", api.OK)
	wantSource(t, m, "è/é/a", "ê/è/a", api.OK)
	wantSource(t, m, "ë/é/a", "", api.ErrNone)
	wantSource(t, m, "è/è/a", "", api.ErrNone)
	wantRules(t, "Below", m.Below("é"))
	wantRules(t, "Below", m.Below("è"), keep("è/a"), drop("è/a/é/b"))
	wantRules(t, "Below", m.Below("è/a/è"))
}

// P14.3, P14.4: what is no path.
func TestNoPaths(t *testing.T) {
	for _, m := range []*pathmap.Map{chapter(t), pathmap.Trivial(), mapOf(t)} {
		for text, err := range noPaths {
			wantImage(t, m, text, "", err)
			wantSource(t, m, text, "", err)
			wantRule(t, m, text, api.Rule{})
			wantRules(t, "Below", m.Below(text))
		}
	}
}

// P14.3: the rule of a path is one of the one form, dropped paths have theirs, too.
func TestRule(t *testing.T) {
	m := chapter(t)
	for path, asked := range map[string]api.Rule{
		"src": keep("src"), "src/a": keep("src"), "src/a/b": keep("src"), "src/old": drop("src/old"), "src/old/y/x": drop("src/old"),
		"src/old/x": keep("src/old/x"), "src/old/x/old": keep("src/old/x"), "src/old/xx": drop("src/old"), "docs/api/x": move("docs/api", "man"),
		"": {}, "docs": {}, "docs/x": {}, "docs/x/y": {}, "man": {}, "srcs": {}, "src.old": {},
	} {
		wantRule(t, m, path, asked)
	}
	wantRule(t, pathmap.Trivial(), "", keep(""))
	wantRule(t, pathmap.Trivial(), most, keep(""))
	wantRule(t, mapOf(t, drop("a")), "a", api.Rule{})
	wantRule(t, mapOf(t, move("a", "a")), "a/b", keep("a"))
}

// P14.4: tops have no rule above them that lets paths through, be there drops between or not.
func TestTopsBelow(t *testing.T) {
	m := mapOf(t, move("a", "x"), drop("a/b"), move("a/b/c", "x/b/c"), drop("a/b/c/d"), move("b", "y"), keep("a."), drop("z"), keep("z/z"))
	form := list(move("a", "x"), drop("a/b"), move("a/b/c", "x/b/c"), drop("a/b/c/d"), keep("a."), move("b", "y"), keep("z/z"))
	wantRules(t, "Tops", m.Tops(), move("a", "x"), keep("a."), move("b", "y"), keep("z/z"))
	for path, asked := range map[string][]api.Rule{
		"": form, "a": form[1:4], "a/b": form[2:4], "a/b/c": form[3:4], "a/b/c/d": nil, "a.": nil, "b": nil, "z": form[6:], "z/z": nil, "x": nil, "c": nil, "a/c": nil,
	} {
		wantRules(t, "Below "+path, m.Below(path), asked...)
	}
	whole := mapOf(t, keep(""), drop("a"), keep("a/b"))
	wantRules(t, "Tops", whole.Tops(), keep(""))
	wantRules(t, "Below", whole.Below(""), drop("a"), keep("a/b"))
	wantRules(t, "Tops", mapOf(t, drop("a")).Tops())
	wantRules(t, "Below", mapOf(t, drop("a")).Below(""))
}

// P14.3: an image, and a source, have at most MaxDepth names.
func TestDepthLimit(t *testing.T) {
	m := mapOf(t, move("x", row(12)))
	wantPair(t, m, "x/b/c/d/e", row(12)+"/b/c/d/e")
	wantImage(t, m, "x/b/c/d/e/f", "", api.ErrLong)
	wantImage(t, m, "x/"+row(15), "", api.ErrLong)
	n := mapOf(t, move(row(12), "x"), drop(row(12)+"/b"), keep("b"))
	wantPair(t, n, row(16), "x/a/a/a/a")
	wantSource(t, n, "x/"+row(5), "", api.ErrLong)
	wantSource(t, n, "x/"+row(15), "", api.ErrLong)
	wantSource(t, n, "x/b/"+row(14), "", api.ErrNone) // what is dropped has no image, however long it is
	wantSource(t, n, "x/"+row(15)+"/a", "", api.ErrLong)
	wantSource(t, n, "b/"+row(15), "b/"+row(15), api.OK)
	out := mapOf(t, move(row(16), ""))
	wantPair(t, out, row(16), "")
	wantSource(t, out, "a", "", api.ErrLong)
	into := mapOf(t, move("", row(16)))
	wantPair(t, into, "", row(16))
	wantImage(t, into, "a", "", api.ErrLong)
}

// P14.3: and at most MaxPath bytes.
func TestBytesLimit(t *testing.T) {
	far := strings.TrimSuffix(strings.Repeat(letters(32)+"/", 5), "/") // 164 bytes
	into := mapOf(t, move("x", far), drop("x/b"), move("x/b/c", far+"/b/c"))
	out := mapOf(t, move(far, "x"), drop(far+"/b"), move(far+"/b/c", "x/b/c"))
	for _, rest := range []string{"/abc/" + letters(31), "/é/" + letters(32), "/b/c/" + letters(31)} {
		wantPair(t, into, "x"+rest, far+rest)
		wantPair(t, out, far+rest, "x"+rest)
	}
	for _, rest := range []string{"/abc/" + letters(32), "/" + letters(30) + "é/abc", "/b/c/" + letters(32), "/" + letters(32) + "/" + letters(32)} {
		wantImage(t, into, "x"+rest, "", api.ErrLong)
		wantSource(t, out, "x"+rest, "", api.ErrLong)
	}
	for _, rest := range []string{"/b", "/b/d/" + letters(32) + "/" + letters(32)} {
		wantImage(t, into, "x"+rest, "", api.ErrNone)
		wantSource(t, out, "x"+rest, "", api.ErrNone)
	}
	deep := mapOf(t, move(most, ""), drop("x"))
	wantPair(t, deep, most, "")
	wantSource(t, deep, "a", "", api.ErrLong)
	wantSource(t, deep, most, "", api.ErrLong)
	wantImage(t, mapOf(t, move("", most)), "a", "", api.ErrLong)
}
