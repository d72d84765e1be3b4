package rule_test

import (
	"math/rand"
	"slices"
	"strings"
	"testing"

	"espalier/api"
	"espalier/name"
	"espalier/quote"
	"espalier/rule"
)

// mayBe is the chapter's words on rules, written down once more.
func mayBe(r api.Rule) bool {
	from, to := name.Depth(r.From) >= 0, name.Depth(r.To) >= 0
	return r.Kind == 3 && from && to || (r.Kind == 1 || r.Kind == 2) && from && r.To == ""
}

// lineOf is the line of a rule that may be.
func lineOf(r api.Rule) string {
	word := func(path string) string {
		if path == "" {
			return "/"
		}
		return quote.Word(path)
	}
	line := [...]string{1: "keep ", 2: "drop ", 3: "move "}[r.Kind] + word(r.From)
	if r.Kind == 3 {
		line += " " + word(r.To)
	}
	return line
}

// readOf is the chapter's words on texts, written down once more: a line's words are looked for among those of all rules that they could be.
func readOf(text string) ([]api.Rule, api.Spot) {
	var rules []api.Rule
	if len(text) > 131072 {
		return nil, api.Spot{Err: api.ErrLong}
	}
	begin := 0
	for line := range strings.SplitAfterSeq(text, "\n") {
		words, spot := quote.Words(strings.TrimSuffix(line, "\n"))
		if spot.Err != api.OK {
			return nil, api.Spot{Err: spot.Err, At: begin + spot.At}
		}
		if len(words) > 0 {
			r := spoken(words)
			switch {
			case !mayBe(r):
				return nil, api.Spot{Err: api.ErrRule, At: begin}
			case len(rules) == 64:
				return nil, api.Spot{Err: api.ErrLong, At: begin}
			}
			rules = append(rules, r)
		}
		begin += len(line)
	}
	return rules, api.Spot{}
}

// spoken is the rule of some words, or one that may not be.
func spoken(words []string) api.Rule {
	paths := slices.Clone(words[1:])
	for k, word := range paths {
		switch word {
		case "/":
			paths[k] = ""
		case "":
			paths[k] = "/" // which is no path
		}
	}
	kind := slices.Index([]string{"keep", "drop", "move"}, words[0]) + 1
	switch {
	case len(paths) == 1 && kind != 3:
		return api.Rule{Kind: kind, From: paths[0]}
	case len(paths) == 2 && kind == 3:
		return api.Rule{Kind: kind, From: paths[0], To: paths[1]}
	}
	return api.Rule{}
}

func holdText(t *testing.T, text string) {
	t.Helper()
	if rules, spot := readOf(text); spot.Err == api.OK {
		wantRead(t, text, rules...)
	} else {
		wantRefused(t, text, spot.Err, spot.At)
	}
}

func holdRule(t *testing.T, r api.Rule) {
	t.Helper()
	if mayBe(r) {
		wantLine(t, r, lineOf(r))
	} else {
		wantNoRule(t, r)
	}
}

// P13.1: all rules of some kinds and paths, held against the model.
func TestRulesByModel(t *testing.T) {
	paths := append([]string{"", "a", "b/c", "a b", "#", `"`, "\u0085", row(16), most}, noPaths...)
	for kind := -2; kind < 6; kind++ {
		for _, from := range paths {
			for _, to := range paths {
				holdRule(t, api.Rule{Kind: kind, From: from, To: to})
			}
		}
	}
}

// P13.2: all texts of a few pieces, and many longer ones, held against the model.
func TestReadByModel(t *testing.T) {
	pieces := []string{"keep", "drop", "move", " ", "\n", "a", "/", `"/"`, `""`, "#", "\\"}
	last := []string{""}
	for range 5 {
		var next []string
		for _, text := range last {
			holdText(t, text)
			for _, piece := range pieces {
				next = append(next, text+piece)
			}
		}
		last = next
	}
	r := rand.New(rand.NewSource(13))
	for range 20000 {
		holdText(t, randomText(r))
	}
}

// pick is one of some texts.
func pick(r *rand.Rand, texts ...string) string {
	return texts[r.Intn(len(texts))]
}

// randomText is lines, most of them right, some around the limit of how many there may be.
func randomText(r *rand.Rand) string {
	wrong := []int{3, 20, 400}[r.Intn(3)]
	var text strings.Builder
	for range r.Intn([]int{3, 6, 70, 90}[r.Intn(4)]) {
		if r.Intn(wrong) == 0 {
			text.WriteString(wrongLine(r))
		} else {
			text.WriteString(dressed(r, randomRule(r)))
		}
		text.WriteString(pick(r, "\n", "\n", "\n", "\n\n", "\n # a\n"))
	}
	return strings.TrimSuffix(text.String(), pick(r, "", "\n"))
}

// wrongLine is words of rules' lines, and others, as they come.
func wrongLine(r *rand.Rand) string {
	var words []string
	for range r.Intn(5) {
		words = append(words, pick(r, "keep", "drop", "move", "copy", "/", `"/"`, `""`, "a", "a//b", "a/", "#", `"`, "\\", "\t", "\xff", `"\n"`, `"a b"`, letters(33)))
	}
	return strings.Join(words, pick(r, " ", " ", "  ", ""))
}

// randomRule is a rule that may be.
func randomRule(r *rand.Rand) api.Rule {
	kind := 1 + r.Intn(3)
	if kind != api.MoveRule {
		return api.Rule{Kind: kind, From: randomPath(r)}
	}
	return move(randomPath(r), randomPath(r))
}

// randomPath is a path of names of all kinds of runes.
func randomPath(r *rand.Rand) string {
	path := ""
	for range r.Intn(6) {
		piece := ""
		for range 1 + r.Intn(4) {
			piece += pick(r, "a", "b", ".", "é", " ", "#", `"`, `\`, "\u0080", "\u009f", "\ufffd", "\U0001f34f", "n", "x")
		}
		if longer, err := name.Join(path, piece); err == api.OK {
			path = longer
		}
	}
	return path
}

// dressed is a line of a rule with blanks more or less, with words that are quoted without need, and with a remark behind them, or none.
func dressed(r *rand.Rand, rule api.Rule) string {
	words, _ := quote.Words(lineOf(rule))
	line := pick(r, "", "", " ", "   ")
	for k, word := range words {
		if k > 0 {
			line += pick(r, " ", " ", "  ", "     ")
		}
		line += pick(r, quote.Word(word), quote.Word(word), quote.Quote(word))
	}
	return line + pick(r, "", "", " ", "  ", " #", " # \"\\\xff", "   #keep a")
}

// P13.3: Read of Print is the rules; blanks, remarks, empty lines and quotes change nothing; Print of what is read is read as the same.
func TestThereAndBack(t *testing.T) {
	r := rand.New(rand.NewSource(133))
	for range 3000 {
		rules := make([]api.Rule, r.Intn(api.MaxRules+1))
		var text strings.Builder
		for k := range rules {
			rules[k] = randomRule(r)
			text.WriteString(pick(r, "", "", "\n", " \n# a\n") + dressed(r, rules[k]) + "\n")
		}
		plain, err := rule.Print(rules)
		if err != api.OK {
			t.Fatalf("Print(%s): %d", told(rules), err)
		}
		wantRead(t, plain, rules...)
		wantRead(t, text.String(), rules...)
		read, _ := rule.Read(text.String())
		wantPrint(t, read, plain)
	}
}

// P13.3: as many rules as may be, with paths whose words are as long as may be, print less than 2^17 bytes, and are read.
func TestThereAndBackLongest(t *testing.T) {
	for _, piece := range []string{"\u0080", `"`, `\`, " ", "a", "é"} {
		whole := strings.Repeat(piece, api.MaxName/len(piece))
		path := strings.Repeat(whole+"/", 6) + piece
		rules := slices.Repeat(list(move(path, path)), api.MaxRules)
		text, err := rule.Print(rules)
		if err != api.OK || len(text) >= 1<<17 || len(text) < 64*2*200 {
			t.Errorf("Print of paths of %q: %d bytes, %d", piece, len(text), err)
		}
		wantRead(t, text, rules...)
	}
}
