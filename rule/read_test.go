package rule_test

import (
	"fmt"
	"slices"
	"strings"
	"testing"

	"espalier/api"
	"espalier/rule"
)

// told is rules as a failure shows them: no more than can be looked at.
func told(rules []api.Rule) string {
	return fmt.Sprintf("%d rules %.300s", len(rules), fmt.Sprintf("%+q", fmt.Sprint(rules)))
}

func wantRead(t *testing.T, text string, asked ...api.Rule) {
	t.Helper()
	if rules, spot := rule.Read(text); spot != (api.Spot{}) || !slices.Equal(rules, asked) {
		t.Errorf("Read(%.200q): %s, %v, not %s", text, told(rules), spot, told(asked))
	}
}

// wantRefused wants a text not to be read, for that error at that place.
func wantRefused(t *testing.T, text string, err api.Errno, at int) {
	t.Helper()
	asked := api.Spot{Err: err, At: at}
	if rules, spot := rule.Read(text); spot != asked || len(rules) != 0 {
		t.Errorf("Read(%.200q): %s, %v, not %v", text, told(rules), spot, asked)
	}
}

// The chapter's rows of Read.
func TestExamplesRead(t *testing.T) {
	wantRead(t, "keep src\nmove \"a b\" /\ndrop src/x # no", keep("src"), move("a b", ""), drop("src/x"))
	wantRefused(t, "keep", api.ErrRule, 0)
	wantRefused(t, "keep a b", api.ErrRule, 0)
	wantRefused(t, "copy a b", api.ErrRule, 0)
	wantRefused(t, "keep a//b", api.ErrRule, 0)
	wantRefused(t, `keep "a`, api.ErrWord, 5)
	wantRead(t, "")
	wantRead(t, " \nkeep \"/\"", keep(""))
}

// P13.2: lines that say nothing, and words in whatever dress.
func TestReadDress(t *testing.T) {
	wantRead(t, "\n")
	wantRead(t, "\n\n  \n#\n # keep a\n#\xff\x00\"")
	wantRead(t, "keep a\n", keep("a"))
	wantRead(t, "keep a\n\n", keep("a"))
	wantRead(t, "\n\n keep a", keep("a"))
	wantRead(t, "   keep    a   ", keep("a"))
	wantRead(t, `"keep" "a"`, keep("a"))
	wantRead(t, `"drop" a#b #c`, drop("a#b"))
	wantRead(t, `"move" "/" "a" # "`, move("", "a"))
	wantRead(t, `move / /`, move("", ""))
	wantRead(t, `move "/" /`, move("", ""))
	wantRead(t, `move / "/"`, move("", ""))
	wantRead(t, "keep keep\nkeep move", keep("keep"), keep("move"))
	wantRead(t, `keep "#a"`, keep("#a"))
	wantRead(t, `keep "a\"\\b"`, keep(`a"\b`))
	wantRead(t, `keep "\xc2\x85"`, keep("\u0085"))
	wantRead(t, "keep é/\ufffd", keep("é/\ufffd"))
	wantRead(t, "drop a\ndrop a\ndrop a", drop("a"), drop("a"), drop("a"))
	wantRead(t, "move "+most+" "+row(16), move(most, row(16)))
}

// P13.2: first words that are none, too few words, too many.
func TestReadWords(t *testing.T) {
	for _, line := range []string{
		"keep", "drop", "move", "move a", "move a b c", "keep a b", "drop a b", "keep / /", "keep # a", "move a # b", "move a b / # c",
		"copy a", "copy a b", "copy", "Keep a", "KEEP a", "keepa", "kee a", "keeps a", "a keep", "/", "/ a", `"" a`, `""`, `"keep " a`, `" keep" a`, `"keep a"`,
		"move / / /", "drop", "1 a", "keep\u00a0a", "é a", "a", "a b", "a b c", `keep a ""`,
	} {
		wantRefused(t, line, api.ErrRule, 0)
		wantRefused(t, line+"\nkeep a", api.ErrRule, 0)
		wantRefused(t, "  "+line, api.ErrRule, 0)
		wantRefused(t, "keep a\n "+line, api.ErrRule, 7)
		wantRefused(t, "\n# é\n"+line+"\n\\", api.ErrRule, 6)
	}
}

// P13.2: words that are no paths, at each place; the root's word is one, no bytes are none.
func TestReadPaths(t *testing.T) {
	words := []string{`""`, "//", "/a", "a/", "a//b", ".", "..", "a/./b", "a/../b", `"a\x00"`, `"a\n"`, `"a\x7f"`, `"a\xff"`, letters(33), row(17), most + "a", `"/a"`, `"//"`, `" /"`, `"a/"`}
	for _, word := range words {
		wantRefused(t, "keep "+word, api.ErrRule, 0)
		wantRefused(t, "drop "+word, api.ErrRule, 0)
		wantRefused(t, "move "+word+" a", api.ErrRule, 0)
		wantRefused(t, "move a "+word, api.ErrRule, 0)
		wantRefused(t, "move / "+word, api.ErrRule, 0)
		wantRefused(t, "move "+word+" /", api.ErrRule, 0)
		wantRefused(t, "move "+word+" "+word, api.ErrRule, 0)
		wantRefused(t, "drop é\n\n  keep "+word+" # a", api.ErrRule, 9)
	}
	wantRead(t, `keep " "`, keep(" "))
	wantRead(t, `keep " / "`, keep(" / "))
}

// P13.2: what is no word is told where it stands in the whole text, ahead of all else that is wrong with its line.
func TestReadNoWords(t *testing.T) {
	for text, at := range map[string]int{
		`"`:                              0,
		`\`:                              0,
		`keep "a`:                        5,
		"keep a\nkeep \"b":               12,
		"keep a\n\n  # é\n keep b\\":     21,
		"copy \"a":                       5,
		"copy a b c \\":                  11,
		"keep a//b \\":                   10,
		"keep a b \xff":                  9,
		"keep a\tb":                      5,
		"\tkeep a":                       0,
		"keep\ta":                        0,
		"keep a\r\n":                     5,
		"keep a\r":                       5,
		"keep a\n\r\n":                   7,
		"keep a\x00":                     5,
		"keep \xff":                      5,
		"keep \u0085":                    5,
		"keep a\"b\"":                    5,
		`keep "a"b`:                      5,
		`keep "a"/`:                      5,
		`keep "\x61"`:                    5,
		"keep \"a\nb\"":                  5,
		"move \"a b\" \"c\n":             11,
		"# \"\nkeep a # \"\nmove / a\"b": 22,
	} {
		wantRefused(t, text, api.ErrWord, at)
	}
}

// P13.2: the first line that is wrong is told, whatever the others are.
func TestReadFirstLine(t *testing.T) {
	wantRefused(t, "copy a\nkeep \"a", api.ErrRule, 0)
	wantRefused(t, "keep \"a\ncopy a", api.ErrWord, 5)
	wantRefused(t, "keep a\nkeep //\ncopy\n\\", api.ErrRule, 7)
	wantRefused(t, "keep a\ncopy\nkeep //\n\\", api.ErrRule, 7)
	wantRefused(t, "keep a\n\\\nkeep //\ncopy", api.ErrWord, 7)
}

// P13.2: MaxRules rules are read; what stands behind them may say nothing, or is wrong for what it is, or is one rule too many.
func TestReadLimit(t *testing.T) {
	full := strings.Repeat("keep a\n", api.MaxRules)
	rules := slices.Repeat(list(keep("a")), api.MaxRules)
	wantRead(t, full, rules...)
	wantRead(t, full[:len(full)-1], rules...)
	wantRead(t, full+"\n \n# keep a\n", rules...)
	wantRead(t, strings.Repeat("\n# b\nkeep a\n", api.MaxRules), rules...)
	wantRefused(t, full+"keep a", api.ErrLong, len(full))
	wantRefused(t, full+"\n # é\n  move / /\n", api.ErrLong, len(full)+7)
	wantRefused(t, full+"keep a\ncopy", api.ErrLong, len(full))
	wantRefused(t, full+"copy", api.ErrRule, len(full))
	wantRefused(t, full+"keep", api.ErrRule, len(full))
	wantRefused(t, full+"keep a/", api.ErrRule, len(full))
	wantRefused(t, full+"keep \"a", api.ErrWord, len(full)+5)
	wantRefused(t, full+full, api.ErrLong, len(full))
	wantRefused(t, "copy\n"+full+full, api.ErrRule, 0)
}

// P13.2: 2^17 bytes are read, one more is not, whatever they are.
func TestReadLong(t *testing.T) {
	const limit = 1 << 17
	for _, fill := range []string{" ", "\n", "#", "# \n\n"} {
		blank := strings.Repeat(fill, limit/len(fill))
		wantRead(t, blank)
		wantRefused(t, blank+" ", api.ErrLong, 0)
	}
	text := "keep a\n" + strings.Repeat("\n", limit-15) + "move / b"
	wantRead(t, text, keep("a"), move("", "b"))
	wantRefused(t, text+"\n", api.ErrLong, 0)
	wantRefused(t, text[:limit-1]+"\\", api.ErrWord, limit-1)
	wantRefused(t, strings.Repeat("\\", limit+1), api.ErrLong, 0)
	wantRefused(t, strings.Repeat("\\", limit), api.ErrWord, 0)
	wantRefused(t, "keep \""+strings.Repeat("a", limit-7)+"\"", api.ErrRule, 0)
	wantRefused(t, strings.Repeat("a ", limit/2), api.ErrRule, 0)
	wantRefused(t, strings.Repeat("keep a\n", limit/7), api.ErrLong, 7*api.MaxRules)
	wantRefused(t, strings.Repeat("a", 1<<24), api.ErrLong, 0)
}

// R3: what is answered is the caller's own, the room behind its end too.
func TestReadAnew(t *testing.T) {
	const text = "keep a\ndrop b\nmove c d"
	one, _ := rule.Read(text)
	two, _ := rule.Read(text)
	_ = append(one[:1], keep("x"), keep("y"), keep("z"))
	one[0] = keep("w")
	if asked := list(keep("a"), drop("b"), move("c", "d")); !slices.Equal(two, asked) {
		t.Errorf("the rules became %s", told(two))
	}
	wantRead(t, text, two...)
}
