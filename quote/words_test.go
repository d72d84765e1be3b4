package quote_test

import (
	"math/rand"
	"slices"
	"strings"
	"testing"

	"espalier/api"
	"espalier/quote"
)

func wantWords(t *testing.T, line string, asked ...string) {
	t.Helper()
	if words, spot := quote.Words(line); spot != (api.Spot{}) || !slices.Equal(words, asked) {
		t.Errorf("Words(%q): %q, %v, not %q", line, words, spot, asked)
	}
}

func wantNone(t *testing.T, line string, at int) {
	t.Helper()
	asked := api.Spot{Err: api.ErrWord, At: at}
	if words, spot := quote.Words(line); spot != asked || len(words) != 0 {
		t.Errorf("Words(%q): %q, %v, not %v", line, words, spot, asked)
	}
}

// The chapter's rows of Words.
func TestExamplesWords(t *testing.T) {
	wantWords(t, `move  a "b c" # x`, "move", "a", "b c")
	wantNone(t, `a "b"c`, 2)
	wantNone(t, `a b"c`, 2)
	wantWords(t, `a # "`, "a")
	wantWords(t, ``)
}

// P5.2: where words begin and end, and where the line does.
func TestWordsEdges(t *testing.T) {
	wantWords(t, " ")
	wantWords(t, "    ")
	wantWords(t, "#")
	wantWords(t, "  # a \"")
	wantWords(t, "#\xff\x00\\\"")
	wantWords(t, "a", "a")
	wantWords(t, " a ", "a")
	wantWords(t, "a  b   c", "a", "b", "c")
	wantWords(t, "a#b #c", "a#b")
	wantWords(t, "a# b#", "a#", "b#")
	wantWords(t, "a #", "a")
	wantWords(t, `""`, "")
	wantWords(t, `"" ""`, "", "")
	wantWords(t, `"#" a`, "#", "a")
	wantWords(t, ` " a "  `, " a ")
	wantWords(t, `"a"   #b"`, "a")
	wantWords(t, `"\"" "\\" b`, "\"", "\\", "b")
	wantWords(t, `"\\\"" "a b"`, "\\\"", "a b")
	wantWords(t, `"\n\x09\xff" é`, "\n\t\xff", "é")
	wantWords(t, "é \ufffd \u00a0", "é", "\ufffd", "\u00a0")
	wantWords(t, `"a"`, "a") // quoted without need
}

// P5.2: what is no word, told at its first byte, the first one of the line.
func TestWordsWrong(t *testing.T) {
	for line, at := range map[string]int{
		`"`:              0,
		`"a`:             0,
		`"a\"`:           0,
		`"a\`:            0,
		`"\`:             0,
		`a "`:            2,
		`a "b c`:         2,
		`a "b\" c`:       2,
		`"\q"`:           0,
		`a "\x41"`:       2,
		`a "\x"`:         2,
		`"\x0a"`:         0,
		"\"\n\"":         0,
		"a \"b\xff\"":    2,
		`"a""b"`:         0,
		`"a"b`:           0,
		`"a"#`:           0,
		`"a"\`:           0,
		"\"a\"\t":        0,
		`"" ""a`:         3,
		`a"`:             0,
		`a"b"`:           0,
		`a"b c"`:         0,
		`é "" a"`:        6,
		`\`:              0,
		`\"a"`:           0,
		`a \"b c"`:       2,
		"a\tb":           0,
		"\ta":            0,
		"a \t b":         2,
		"a\nb":           0,
		"\n":             0,
		"a b\x00":        2,
		"a b\x7f c":      2,
		"a \u0085":       2,
		"a\u009f":        0,
		"a \xff":         2,
		"a é\xe2\x82 \\": 2,
		"a b\\ \"":       2,
		"a\\b #":         0,
		"a#\"":           0,
		"a \" b\xff":     2,
		"\ufffd \xef":    4,
	} {
		wantNone(t, line, at)
	}
}

// wordsOf is the chapter's words on lines, written down once more: what a word is goes ahead of whether it may be.
func wordsOf(line string) ([]string, int) {
	var words []string
	at := 0
	for {
		for at < len(line) && line[at] == ' ' {
			at++
		}
		if at == len(line) || line[at] == '#' {
			return words, -1
		}
		if line[at] != '"' {
			word, _, _ := strings.Cut(line[at:], " ")
			if !plainOf(word) {
				return nil, at
			}
			words = append(words, word)
			at += len(word)
			continue
		}
		end := closing(line[at:])
		if end < 0 {
			return nil, at
		}
		word, ok := unquoteOf(line[at : at+end])
		if !ok || at+end < len(line) && line[at+end] != ' ' {
			return nil, at
		}
		words = append(words, word)
		at += end
	}
}

// closing is behind which place the quoted word ends with which a text begins; -1, if it has no end.
func closing(text string) int {
	taken := false
	for k := 1; k < len(text); k++ {
		switch {
		case taken:
			taken = false
		case text[k] == '\\':
			taken = true
		case text[k] == '"':
			return k + 1
		}
	}
	return -1
}

func holdWords(t *testing.T, line string) {
	t.Helper()
	if words, at := wordsOf(line); at < 0 {
		wantWords(t, line, words...)
	} else {
		wantNone(t, line, at)
	}
}

// P5.2: all short lines of some bytes, and many longer ones, held against the model.
func TestWordsByModel(t *testing.T) {
	for _, line := range shortTexts("a# \"\\", 8) {
		holdWords(t, line)
	}
	for _, line := range shortTexts("\" \\n\xc2\x85#", 6) {
		holdWords(t, line)
	}
	r := rand.New(rand.NewSource(52))
	for range 100000 {
		holdWords(t, randomText(r))
	}
}

// P5.4: whatever the words are, their line has them, and no more.
func TestThereAndBackWords(t *testing.T) {
	r := rand.New(rand.NewSource(541))
	for range 50000 {
		words := make([]string, r.Intn(6))
		for k := range words {
			words[k] = anyBytes(r, 8)
			if r.Intn(3) == 0 {
				words[k] = []string{"", "a", "#", "a#", "é", "\ufffd", " "}[r.Intn(7)]
			}
		}
		wantWords(t, quote.Line(words...), words...)
	}
}

// P5.4: a quoted text is one word of any line, wherever it stands in it.
func TestQuotedIsOneWord(t *testing.T) {
	r := rand.New(rand.NewSource(542))
	for range 20000 {
		text := anyBytes(r, 12)
		quoted := quote.Quote(text)
		wantWords(t, quoted, text)
		wantWords(t, "a "+quoted+"  b", "a", text, "b")
		wantWords(t, quoted+" "+quoted+" #"+quoted, text, text)
	}
}

// R3: what is answered is the caller's own.
func TestWordsAnew(t *testing.T) {
	one, _ := quote.Words("a b")
	two, _ := quote.Words("a b")
	one[0] = "c"
	_ = append(one[:1], "d")
	if !slices.Equal(two, []string{"a", "b"}) {
		t.Errorf("the words became %q", two)
	}
}

// R1: long lines, of one word and of many.
func TestWordsLong(t *testing.T) {
	long := strings.Repeat("a", 1<<20)
	wantWords(t, long, long)
	wantWords(t, "\""+long+"\"", long)
	wantNone(t, "\""+long, 0)
	wantNone(t, strings.Repeat(" ", 1<<20)+"\\", 1<<20)
	if words, spot := quote.Words(strings.Repeat(`a "" `, 1<<17)); len(words) != 1<<18 || spot.Err != api.OK {
		t.Errorf("%d words, %v", len(words), spot)
	}
}
