package pathmap_test

import (
	"fmt"
	"slices"
	"strings"
	"testing"

	"espalier/api"
	"espalier/octet"
	"espalier/pathmap"
	"espalier/rule"
)

func keep(from string) api.Rule     { return api.Rule{Kind: api.KeepRule, From: from} }
func drop(from string) api.Rule     { return api.Rule{Kind: api.DropRule, From: from} }
func move(from, to string) api.Rule { return api.Rule{Kind: api.MoveRule, From: from, To: to} }

func list(rules ...api.Rule) []api.Rule { return rules }

// letters is n letters a, row that letter as n names, most a path of as many bytes as one may have.
func letters(n int) string { return strings.Repeat("a", n) }
func row(n int) string     { return strings.TrimSuffix(strings.Repeat("a/", n), "/") }

var most = strings.Repeat(letters(24)+"/", 7) + letters(25)

// noPaths are texts that are no paths, each with what package name says of it.
var noPaths = map[string]api.Errno{
	"/": api.ErrName, "//": api.ErrName, "/a": api.ErrName, "a/": api.ErrName, "a//b": api.ErrName, ".": api.ErrName, "a/../b": api.ErrName,
	"a\x00": api.ErrName, "a\n": api.ErrName, "a\x7f": api.ErrName, "a\xff": api.ErrName, "\xed\xa0\x80": api.ErrName,
	letters(33): api.ErrLong, row(17): api.ErrLong, most + "a": api.ErrLong,
}

// told is rules as a failure shows them.
func told(rules []api.Rule) string {
	var text strings.Builder
	for _, r := range rules {
		line, err := rule.Line(r)
		if err != api.OK {
			line = fmt.Sprintf("%+q", fmt.Sprint(r))
		}
		fmt.Fprintf(&text, "%.100s; ", line)
	}
	return fmt.Sprintf("%d rules: %.400s", len(rules), text.String())
}

// mapOf is the Map of rules that may be.
func mapOf(t *testing.T, rules ...api.Rule) *pathmap.Map {
	t.Helper()
	m, fault := pathmap.New(rules)
	if fault != (api.Fault{}) || m == nil {
		t.Fatalf("New(%s): %v", told(rules), fault)
	}
	return m
}

// chapter is the Map of the chapter's section 'Examples'.
func chapter(t *testing.T) *pathmap.Map {
	t.Helper()
	return mapOf(t, keep("src"), drop("src/old"), keep("src/old/x"), move("docs/api", "man"), keep("src/a"), drop("docs/x"))
}

func wantFault(t *testing.T, l []api.Rule, err api.Errno, at int) {
	t.Helper()
	asked := api.Fault{Err: err, At: at}
	if m, fault := pathmap.New(l); m != nil || fault != asked {
		t.Errorf("New(%s): %v, %v, not %v", told(l), m != nil, fault, asked)
	}
}

func wantText(t *testing.T, m *pathmap.Map, lines ...string) {
	t.Helper()
	asked := ""
	for _, line := range lines {
		asked += line + "\n"
	}
	if text := m.Text(); text != asked {
		t.Errorf("Text: %q, not %q", text, asked)
	}
}

func wantRules(t *testing.T, what string, rules []api.Rule, asked ...api.Rule) {
	t.Helper()
	if !slices.Equal(rules, asked) {
		t.Errorf("%s: %s, not %s", what, told(rules), told(asked))
	}
}

// The chapter's row of the one form.
func TestExampleText(t *testing.T) {
	wantText(t, chapter(t), "move docs/api man", "keep src", "drop src/old", "keep src/old/x")
	wantText(t, mapOf(t, move("a", "b"), move("b", "a")), "move a b", "move b a")
	wantText(t, mapOf(t))
}

// The chapter's rows of sets that may not be.
func TestExamplesNew(t *testing.T) {
	wantFault(t, list(keep("a"), move("b", "a")), api.ErrOverlap, 1)
	wantFault(t, list(keep("a"), move("a/b", "c")), api.ErrOverlap, 1)
	wantFault(t, list(keep("a"), move("b", "a/c")), api.ErrOverlap, 1)
	wantFault(t, list(keep("a"), keep("a")), api.ErrTwice, 1)
}

// P14.1: a rule that may not be is told at its place, whatever stands behind it, and whatever its paths say of others.
func TestNewNoRules(t *testing.T) {
	wrong := list(api.Rule{}, api.Rule{Kind: 4, From: "b"}, api.Rule{Kind: -1, From: "b"}, api.Rule{Kind: api.KeepRule, From: "b", To: "c"}, api.Rule{Kind: api.DropRule, From: "b", To: "c"}, api.Rule{Kind: api.KeepRule, From: "a", To: "a"})
	for text := range noPaths {
		wrong = append(wrong, keep(text), drop(text), move(text, "b"), move("b", text))
	}
	for _, r := range wrong {
		wantFault(t, list(r), api.ErrArg, 0)
		wantFault(t, list(keep("a"), r), api.ErrArg, 1)
		wantFault(t, list(keep("a"), drop("c"), r, keep("a")), api.ErrArg, 2)
		wantFault(t, list(r, r), api.ErrArg, 0)
		wantFault(t, list(keep("a"), keep("a"), r), api.ErrTwice, 1)
		wantFault(t, list(keep("a"), move("b", "a"), r), api.ErrOverlap, 1)
	}
}

// P14.1: a From stands once, whatever the kinds are; this goes ahead of images that are in each other's way, at one place alone.
func TestNewTwice(t *testing.T) {
	for _, r := range list(keep("a"), drop("a"), move("a", "a"), move("a", "b"), move("a", "")) {
		for _, s := range list(keep("a"), drop("a"), move("a", "a"), move("a", "c"), move("a", "x/y")) {
			wantFault(t, list(r, s), api.ErrTwice, 1)
			wantFault(t, list(drop("x"), r, drop("z"), s), api.ErrTwice, 3)
			wantFault(t, list(r, s, s), api.ErrTwice, 1)
		}
	}
	wantFault(t, list(keep(""), drop("")), api.ErrTwice, 1)
	wantFault(t, list(keep("a"), move("b", "a"), keep("a")), api.ErrOverlap, 1)
	wantFault(t, list(drop("b"), keep("a"), move("b", "a")), api.ErrTwice, 2)
}

// P14.1: images that would get into each other's way, told at the later one of the two.
func TestNewOverlap(t *testing.T) {
	for _, pair := range [][2]api.Rule{
		{move("a", "x"), move("b", "x")},
		{move("a", "x"), move("b", "x/y")},
		{move("a", ""), keep("b")},
		{move("a", ""), move("b", "x/y/z")},
		{move("a", ""), move("b", "")},
		{keep(""), move("a", "b")},
		{keep(""), move("a", "")},
		{move("", "x"), keep("a")},
		{move("", "x"), keep("x")},
		{move("a", "x"), move("a/b", "x")},
		{move("a", "x"), move("a/b", "x/c")},
		{move("a", "x"), move("a/b", "x/b/c")},
		{move("a", "x"), move("a/b/c", "x/c")},
		{move("a", "x"), keep("a/b")},
		{move("a/b", "a"), keep("a")},
		{move("a", "a/a"), move("a/a", "a/a/b")},
		{move("a", "é"), move("b", "é/è")},
	} {
		wantFault(t, list(pair[0], pair[1]), api.ErrOverlap, 1)
		wantFault(t, list(pair[1], pair[0]), api.ErrOverlap, 1)
		wantFault(t, list(drop("q"), pair[0], drop("x/y/q"), pair[1], api.Rule{}), api.ErrOverlap, 3)
	}
}

// P14.1: rules that may stand beside one another: names that begin alike, drops wherever they are, moves that go with the folder above, folders that change places.
func TestNewMayBe(t *testing.T) {
	for _, l := range [][]api.Rule{
		nil,
		list(drop("")),
		list(drop("a"), drop("a/b"), drop("")),
		list(keep("a"), keep("ab"), keep("a b"), keep("b")),
		list(move("a", "x"), move("b", "xy"), move("c", "x.y")),
		list(move("a", "x"), move("a/b", "x/b"), move("a/b/c/d", "x/b/c/d")),
		list(move("a/b/c", "x/b/c"), move("a", "x"), drop("a/b")),
		list(move("a", "x"), drop("x"), drop("x/y")),
		list(move("a", "b"), move("b", "c"), move("c", "a")),
		list(move("a", "a/a")),
		list(move("a/a", "a"), move("b", "b/a")),
		list(move("", "x"), move("a", "x/a"), drop("a/b")),
		list(keep(""), keep("a"), move("b", "b")),
		list(move("", "")),
		list(move("é", "è"), move("è", "é"), keep("\ufffd"), keep("a\ufffd")),
	} {
		mapOf(t, l...)
	}
}

// P14.1: MaxRules rules may be; one more goes ahead of all else that is wrong.
func TestNewLimit(t *testing.T) {
	var rules []api.Rule
	for k := range api.MaxRules {
		rules = append(rules, keep(fmt.Sprint("a", k)))
	}
	if m := mapOf(t, rules...); len(m.Rules()) != api.MaxRules {
		t.Errorf("%s", told(m.Rules()))
	}
	wantFault(t, append(slices.Clone(rules), keep("b")), api.ErrLong, -1)
	wantFault(t, append(slices.Clone(rules), rules[0]), api.ErrLong, -1)
	wantFault(t, make([]api.Rule, api.MaxRules+1), api.ErrLong, -1)
	wantFault(t, make([]api.Rule, api.MaxRules), api.ErrArg, 0)
	wantFault(t, slices.Repeat(list(drop("a")), api.MaxRules+1), api.ErrLong, -1)
	rules[api.MaxRules-1] = move("b", "a0")
	wantFault(t, rules, api.ErrOverlap, api.MaxRules-1)
	rules[api.MaxRules-1] = drop("a0")
	wantFault(t, rules, api.ErrTwice, api.MaxRules-1)
}

// P14.1: Trivial keeps everything.
func TestTrivial(t *testing.T) {
	m := pathmap.Trivial()
	wantRules(t, "Trivial", m.Rules(), keep(""))
	wantText(t, m, "keep /")
	if !m.Same(mapOf(t, keep(""))) || !m.Same(mapOf(t, move("", ""), keep("a"))) || m.Same(mapOf(t, keep(""), drop("a"))) {
		t.Error("Trivial is not Same as it should be")
	}
}

// P14.2: what stays in the one form, and in which order.
func TestOneForm(t *testing.T) {
	for _, row := range []struct {
		of, form []api.Rule
	}{
		{list(drop("")), nil},
		{list(drop("a"), drop("a/b"), drop("b")), nil},
		{list(drop("a"), keep("a/b")), list(keep("a/b"))},
		{list(drop(""), keep("a"), drop("a/b"), drop("a/b/c"), keep("a/b/c/d")), list(keep("a"), drop("a/b"), keep("a/b/c/d"))},
		{list(keep("a"), keep("a/b"), keep("a/b/c"), drop("a/b/c/d")), list(keep("a"), drop("a/b/c/d"))},
		{list(keep("a/b"), keep("a")), list(keep("a"))},
		{list(move("a", "a")), list(keep("a"))},
		{list(move("", "")), list(keep(""))},
		{list(move("a", "x"), move("a/b", "x/b"), drop("a/c"), move("a/c/d", "x/c/d")), list(move("a", "x"), drop("a/c"), move("a/c/d", "x/c/d"))},
		{list(move("a", "x"), drop("x"), drop("b")), list(move("a", "x"))},
		{list(keep(""), drop("a"), move("a/b", "a/b")), list(keep(""), drop("a"), keep("a/b"))},
		{list(keep("b"), keep("a.b"), keep("a"), drop("a/b"), keep("a-"), keep("a b")), list(keep("a"), drop("a/b"), keep("a b"), keep("a-"), keep("a.b"), keep("b"))},
		{list(keep("a"), drop("ab"), drop("a/b")), list(keep("a"), drop("a/b"))},
	} {
		m := mapOf(t, row.of...)
		wantRules(t, "Rules of "+told(row.of), m.Rules(), row.form...)
		if text, err := rule.Print(row.form); err != api.OK || m.Text() != text {
			t.Errorf("Text of %s: %q, not %q", told(row.of), m.Text(), text)
		}
		if key := api.Id(octet.Hash([]byte(m.Text()))); m.Key() != key {
			t.Errorf("Key of %s: %x, not %x", told(row.of), m.Key(), key)
		}
	}
}

// P14.2: the text is quoted where a path is no plain word.
func TestTextQuoted(t *testing.T) {
	wantText(t, mapOf(t, move("#a", "a b"), drop("#a/é\""), keep("é")), `move "#a" "a b"`, `drop "#a/é\""`, `keep é`)
}

// P14.2: Key is the hash of Text; 1 of a text whose hash is 0, as 0 is that of no Map.
func TestKey(t *testing.T) {
	if key := mapOf(t).Key(); key != 0xcbf29ce484222325 {
		t.Errorf("Key of no rules: %x", key)
	}
	for _, from := range []string{"4cdMpac7ZBa4", "v43nkba0_E6A", "MXdHtb5hmE3W", "zGzcPbemwuA1"} {
		m := mapOf(t, keep(from), keep(from+"/a"))
		if hash := octet.Hash([]byte(m.Text())); hash != 0 {
			t.Errorf("%q has the hash %x", m.Text(), hash)
		}
		if m.Key() != 1 {
			t.Errorf("Key of %q: %x", m.Text(), m.Key())
		}
	}
}

// P14.2: Same goes by the one form, not by the list.
func TestSame(t *testing.T) {
	m := chapter(t)
	others := []*pathmap.Map{
		m,
		mapOf(t, m.Rules()...),
		mapOf(t, keep("src/old/x"), move("docs/api", "man"), drop("src/old"), move("src", "src"), drop("z")),
	}
	for k, n := range others {
		if !m.Same(n) || !n.Same(m) || m.Key() != n.Key() {
			t.Errorf("number %d is not the Same", k)
		}
	}
	for k, n := range []*pathmap.Map{
		nil, mapOf(t), pathmap.Trivial(),
		mapOf(t, m.Rules()[:3]...),
		mapOf(t, append(m.Rules(), keep("z"))...),
		mapOf(t, keep("src"), drop("src/old"), keep("src/old/x"), move("docs/api", "men")),
		mapOf(t, keep("src"), drop("src/old"), keep("src/old/y"), move("docs/api", "man")),
	} {
		if m.Same(n) || n.Same(m) {
			t.Errorf("other number %d is the Same", k)
		}
	}
	if !mapOf(t).Same(mapOf(t, drop("a"))) {
		t.Error("Maps of nothing are not the Same")
	}
}

// R4: of a nil Map there is nothing.
func TestNil(t *testing.T) {
	var m *pathmap.Map
	if len(m.Rules())+len(m.Tops())+len(m.Below(""))+len(m.Text()) != 0 || m.Key() != 0 || m.Same(m) || m.Same(nil) || m.Inverse() != nil {
		t.Error("a nil Map has something")
	}
	for _, text := range []string{"", "a", "/", row(17)} {
		wantImage(t, m, text, "", api.ErrNil)
		wantSource(t, m, text, "", api.ErrNil)
		wantRule(t, m, text, api.Rule{})
	}
	for _, pair := range [][2]*pathmap.Map{{nil, nil}, {nil, pathmap.Trivial()}, {pathmap.Trivial(), nil}} {
		if c, err := pathmap.Compose(pair[0], pair[1]); c != nil || err != api.ErrNil {
			t.Errorf("Compose with a nil Map: %v, %d", c != nil, err)
		}
	}
}

// R3: the list that is handed in stays as it is, and is not kept; what is answered is the caller's alone.
func TestMemory(t *testing.T) {
	room := list(move("b", "b"), keep("a"), drop("a/b"), keep("a/b/c"), keep("z"))
	was := slices.Clone(room)
	m := mapOf(t, room[:4]...)
	if !slices.Equal(room, was) {
		t.Errorf("the rules became %s", told(room))
	}
	form := list(keep("a"), drop("a/b"), keep("a/b/c"), keep("b"))
	for k := range room {
		room[k] = drop("q")
	}
	for _, answer := range [][]api.Rule{m.Rules(), m.Rules(), m.Tops(), m.Below(""), m.Below("a")} {
		answer = answer[:cap(answer)]
		for k := range answer {
			answer[k] = move("x", "y")
		}
	}
	wantRules(t, "Rules", m.Rules(), form...)
	wantRules(t, "Tops", m.Tops(), keep("a"), keep("b"))
	wantRules(t, "Below", m.Below(""), form...)
	wantImage(t, m, "a/b/c/d", "a/b/c/d", api.OK)
	wantImage(t, m, "q", "", api.ErrNone)
}
