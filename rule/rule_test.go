package rule_test

import (
	"slices"
	"strings"
	"testing"

	"espalier/api"
	"espalier/rule"
)

func keep(from string) api.Rule     { return api.Rule{Kind: api.KeepRule, From: from} }
func drop(from string) api.Rule     { return api.Rule{Kind: api.DropRule, From: from} }
func move(from, to string) api.Rule { return api.Rule{Kind: api.MoveRule, From: from, To: to} }

func list(rules ...api.Rule) []api.Rule { return rules }

// letters is n letters a, row that letter as n names, most a path of as many bytes as one may have.
func letters(n int) string { return strings.Repeat("a", n) }
func row(n int) string     { return strings.TrimSuffix(strings.Repeat("a/", n), "/") }

var most = strings.Repeat(letters(24)+"/", 7) + letters(25)

// noPaths are texts that are no paths, one for each way in which a text may be none.
var noPaths = []string{"/", "//", "/a", "a/", "a//b", ".", "..", "a/../b", "a\x00", "a\n", "a\x7f", "a\xff", "\xed\xa0\x80", letters(33), row(17), most + "a"}

// wantLine wants a rule to be one that may be, and to have that line.
func wantLine(t *testing.T, r api.Rule, asked string) {
	t.Helper()
	if err := rule.Check(r); err != api.OK {
		t.Errorf("Check(%s): %d", told(list(r)), err)
	}
	if line, err := rule.Line(r); line != asked || err != api.OK {
		t.Errorf("Line(%s): %q, %d, not %q", told(list(r)), line, err, asked)
	}
	wantPrint(t, list(r), asked+"\n")
}

// wantNoRule wants a rule to be one that may not be, alone and among others.
func wantNoRule(t *testing.T, r api.Rule) {
	t.Helper()
	if err := rule.Check(r); err != api.ErrArg {
		t.Errorf("Check(%s): %d", told(list(r)), err)
	}
	if line, err := rule.Line(r); line != "" || err != api.ErrArg {
		t.Errorf("Line(%s): %q, %d", told(list(r)), line, err)
	}
	wantNoPrint(t, list(r), api.ErrArg)
	wantNoPrint(t, list(keep("a"), r, keep("b")), api.ErrArg)
	wantNoPrint(t, list(keep("a"), r, api.Rule{}), api.ErrArg)
}

func wantPrint(t *testing.T, l []api.Rule, asked string) {
	t.Helper()
	if text, err := rule.Print(l); text != asked || err != api.OK {
		t.Errorf("Print(%s): %.300q, %d, not %.300q", told(l), text, err, asked)
	}
}

func wantNoPrint(t *testing.T, l []api.Rule, asked api.Errno) {
	t.Helper()
	if text, err := rule.Print(l); text != "" || err != asked {
		t.Errorf("Print(%s): %.300q, %d, not %d", told(l), text, err, asked)
	}
}

// The chapter's rows of Print and Line.
func TestExamplesPrint(t *testing.T) {
	wantPrint(t, list(keep("src"), move("a b", ""), drop("src/x")), "keep src\nmove \"a b\" /\ndrop src/x\n")
	wantLine(t, keep(""), "keep /")
	wantNoRule(t, api.Rule{From: "a"})
	wantNoRule(t, api.Rule{Kind: api.KeepRule, From: "a", To: "b"})
	wantNoRule(t, keep("a/"))
}

// P13.1: each kind's line, with the root at each place.
func TestLines(t *testing.T) {
	wantLine(t, keep("src"), "keep src")
	wantLine(t, keep("src/a/b"), "keep src/a/b")
	wantLine(t, drop("src"), "drop src")
	wantLine(t, drop(""), "drop /")
	wantLine(t, move("a", "b/c"), "move a b/c")
	wantLine(t, move("", ""), "move / /")
	wantLine(t, move("", "a"), "move / a")
	wantLine(t, move("a", ""), "move a /")
	wantLine(t, move("a", "a"), "move a a")
	wantLine(t, keep("keep"), "keep keep")
	wantPrint(t, nil, "")
	wantPrint(t, list(), "")
	wantPrint(t, list(keep("a"), keep("a")), "keep a\nkeep a\n") // which sets may be is not asked here
}

// P13.1: the words of paths that are no plain words, and of some that look as if they were none.
func TestLinesQuoted(t *testing.T) {
	for path, word := range map[string]string{
		"a b":        `"a b"`,
		" ":          `" "`,
		"#a":         `"#a"`,
		"#":          `"#"`,
		"a#":         `a#`,
		"a/#":        `a/#`,
		"#/a":        `"#/a"`,
		`a"b`:        `"a\"b"`,
		`a\b`:        `"a\\b"`,
		`\n`:         `"\\n"`,
		"a\u0085/b":  `"a\xc2\x85/b"`,
		"\u009f":     `"\xc2\x9f"`,
		"\u00a0":     "\u00a0",
		"é/\ufffd":   "é/\ufffd",
		"\U0001f34f": "\U0001f34f",
		"...":        "...",
		"é b/\"":     `"é b/\""`,
		letters(32):  letters(32),
		row(16):      row(16),
		most:         most,
		"a/drop":     "a/drop",
	} {
		wantLine(t, keep(path), "keep "+word)
		wantLine(t, drop(path), "drop "+word)
		wantLine(t, move(path, ""), "move "+word+" /")
		wantLine(t, move("", path), "move / "+word)
		wantLine(t, move(path, path), "move "+word+" "+word)
	}
}

// P13.1: kinds that are none, paths that are none, and a To that no move has.
func TestNoRules(t *testing.T) {
	for _, kind := range []int{0, -1, 4, 5, 1 << 40, -1 << 63} {
		wantNoRule(t, api.Rule{Kind: kind})
		wantNoRule(t, api.Rule{Kind: kind, From: "a"})
		wantNoRule(t, api.Rule{Kind: kind, From: "a", To: "b"})
	}
	for _, path := range append(slices.Clone(noPaths), strings.Repeat("a/", 1<<20)) {
		wantNoRule(t, keep(path))
		wantNoRule(t, drop(path))
		wantNoRule(t, move(path, "a"))
		wantNoRule(t, move("a", path))
		wantNoRule(t, move(path, path))
		wantNoRule(t, move("", path))
		wantNoRule(t, move(path, ""))
		wantNoRule(t, api.Rule{Kind: api.KeepRule, From: "a", To: path})
	}
	for _, from := range []string{"", "a", "b"} {
		wantNoRule(t, api.Rule{Kind: api.KeepRule, From: from, To: "b"})
		wantNoRule(t, api.Rule{Kind: api.DropRule, From: from, To: "b"})
	}
}

// P13.1: as many rules as may be, one more, and which error goes first.
func TestPrintLimit(t *testing.T) {
	rules := make([]api.Rule, api.MaxRules)
	for k := range rules {
		rules[k] = drop("a")
	}
	wantPrint(t, rules, strings.Repeat("drop a\n", api.MaxRules))
	wantNoPrint(t, append(rules, drop("a")), api.ErrLong)
	wantNoPrint(t, append(rules, api.Rule{}), api.ErrLong)
	wantNoPrint(t, make([]api.Rule, 1<<16), api.ErrLong)
	rules[0].Kind = 0
	wantNoPrint(t, rules, api.ErrArg)
	wantNoPrint(t, append(rules, drop("a")), api.ErrLong)
	rules[0].Kind, rules[api.MaxRules-1].From = api.DropRule, "a/"
	wantNoPrint(t, rules, api.ErrArg)
}

// R3: what Print is handed stays as it is, the room behind its end too.
func TestPrintLeavesList(t *testing.T) {
	room := list(keep("a"), move("b c", ""), drop("d"), keep("e"))
	was := slices.Clone(room)
	wantPrint(t, room[:2], "keep a\nmove \"b c\" /\n")
	if !slices.Equal(room, was) {
		t.Errorf("the rules became %s", told(room))
	}
}
