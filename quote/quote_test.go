package quote_test

import (
	"math/rand"
	"strings"
	"testing"

	"espalier/quote"
)

func wantPlain(t *testing.T, text string, asked bool) {
	t.Helper()
	if plain := quote.Plain(text); plain != asked {
		t.Errorf("Plain(%q): %t", text, plain)
	}
}

func wantQuote(t *testing.T, text, asked string) {
	t.Helper()
	if quoted := quote.Quote(text); quoted != asked {
		t.Errorf("Quote(%q): %q, not %q", text, quoted, asked)
	}
}

func wantUnquote(t *testing.T, quoted, asked string) {
	t.Helper()
	if text, ok := quote.Unquote(quoted); text != asked || !ok {
		t.Errorf("Unquote(%q): %q %t, not %q", quoted, text, ok, asked)
	}
}

func wantRefused(t *testing.T, quoted string) {
	t.Helper()
	if text, ok := quote.Unquote(quoted); text != "" || ok {
		t.Errorf("Unquote(%q): %q %t", quoted, text, ok)
	}
}

func wantWord(t *testing.T, text, asked string) {
	t.Helper()
	if word := quote.Word(text); word != asked {
		t.Errorf("Word(%q): %q, not %q", text, word, asked)
	}
}

func wantLine(t *testing.T, words []string, asked string) {
	t.Helper()
	if line := quote.Line(words...); line != asked {
		t.Errorf("Line of %q: %q, not %q", words, line, asked)
	}
}

// The chapter's rows of Plain, Quote, Unquote and Line.
func TestExamplesQuoted(t *testing.T) {
	wantPlain(t, "a/b", true)
	wantPlain(t, "é", true)
	wantPlain(t, "", false)
	wantPlain(t, "a b", false)
	wantPlain(t, "#a", false)
	wantPlain(t, "a#", true)
	wantPlain(t, "\xff", false)
	wantQuote(t, `a"b`, `"a\"b"`)
	wantQuote(t, "\n", `"\n"`)
	wantQuote(t, "\x09\xff", `"\x09\xff"`)
	wantQuote(t, "é", `"é"`)
	wantRefused(t, `"a`)
	wantRefused(t, `"\x41"`)
	wantRefused(t, `"a""b"`)
	wantRefused(t, `"\q"`)
	wantLine(t, []string{"a", "", "b c"}, `a "" "b c"`)
}

// P5.1: what no plain word has, at its beginning, within it, and at its end.
func TestPlainEdges(t *testing.T) {
	for text, asked := range map[string]bool{
		"a":                true,
		"-":                true,
		"'":                true,
		"!":                true,
		"~":                true,
		"a#b#":             true,
		"#":                false,
		"é#":               true,
		"##":               false,
		" ":                false,
		" a":               false,
		"a ":               false,
		"\"":               false,
		"a\"":              false,
		"\\":               false,
		"a\\":              false,
		"a\\b":             false,
		"\x00":             false,
		"a\x1f":            false,
		"a\n":              false,
		"\ta":              false,
		"a\x7f":            false,
		"a\u0080":          false,
		"a\u009f":          false,
		"a\u00a0":          true, // a blank by its looks alone
		"\u2003":           true,
		"\ufffd":           true,
		"a\ufffdb":         true,
		"\ufffd\xff":       false,
		"a\xef\xbf":        false,
		"\xef\xbf\xbd\xbd": false,
		"\xed\xa0\x80":     false, // a surrogate
		"\xc0\xaf":         false, // longer than it needs
		"\xf4\x90\x80\x80": false, // behind the last rune
		"\xf0\x9f\x8d\x8f": true,
		"é\xf0\x9f\x8d":    false,
		"a\x80":            false,
	} {
		wantPlain(t, text, asked)
	}
}

// P5.1: how each piece is quoted, and that it comes back.
func TestQuotePieces(t *testing.T) {
	for text, quoted := range map[string]string{
		"":                        `""`,
		"a":                       `"a"`,
		"a b":                     `"a b"`,
		"#a":                      `"#a"`,
		"\"":                      `"\""`,
		"\\":                      `"\\"`,
		"\\\"":                    `"\\\""`,
		"\\n":                     `"\\n"`,
		"\\x09":                   `"\\x09"`,
		"\\\n":                    `"\\\n"`,
		"a\nb":                    `"a\nb"`,
		"\r":                      `"\x0d"`,
		"\x00":                    `"\x00"`,
		"\x1f ":                   `"\x1f "`,
		"~\x7f":                   `"~\x7f"`,
		"\u0080":                  `"\xc2\x80"`,
		"\u0085":                  `"\xc2\x85"`,
		"\u009f\u00a0":            `"\xc2\x9f` + "\u00a0\"",
		"\ufffd":                  "\"\ufffd\"",
		"\ufffd\xff\ufffd":        "\"\ufffd\\xff\ufffd\"",
		"\xef\xbf":                `"\xef\xbf"`,
		"\xc2":                    `"\xc2"`,
		"\xc2a":                   `"\xc2a"`,
		"\xc2\xc2\x85":            `"\xc2\xc2\x85"`,
		"\xc2é":                   `"\xc2é"`,
		"\xe2\x82":                `"\xe2\x82"`,
		"\xe2\x82€":               `"\xe2\x82€"`,
		"\x80":                    `"\x80"`,
		"\xed\xa0\x80":            `"\xed\xa0\x80"`,
		"\xc0\xaf":                `"\xc0\xaf"`,
		"\xf4\x90\x80\x80":        `"\xf4\x90\x80\x80"`,
		"\xf0\x9f\x8d\x8f":        "\"\xf0\x9f\x8d\x8f\"",
		"\U0010ffff":              "\"\U0010ffff\"",
		"\u2028":                  "\"\u2028\"",
		"\xfe\xff\x01\"\\é\n\xab": `"\xfe\xff\x01\"\\é\n\xab"`,
	} {
		wantQuote(t, text, quoted)
		wantUnquote(t, quoted, text)
	}
}

// P5.1: what is the quoted form of nothing, though one could read it.
func TestUnquoteRefuses(t *testing.T) {
	for _, quoted := range []string{
		``, `a`, `"`, `a"`, `"a`, `ab"`, `'a'`, ` "a"`, `"a" `,
		`"""`, `"a"b"`, `"\"`, `"\\\"`, `""\`,
		`"\`, `"\x"`, `"\x0"`, `"\x9"`, `"\x0g"`, `"\xg0"`, `"\x 1"`, `"\x-1"`, `"\x+1"`,
		`"\t"`, `"\r"`, `"\0"`, `"\a"`, `"\N"`, `"\X09"`, `"\u0009"`, `"\é"`, `"\ "`, `"\#"`,
		`"\x0a"`, `"\x0A"`, `"\xFF"`, `"\xfF"`, `"\x20"`, `"\x22"`, `"\x5c"`, `"\x41"`, `"\x7e"`,
		`"\xc3\xa9"`, `"\xef\xbf\xbd"`, `"\xc2\xa0"`, `"\xe2\x82\xac"`, `"\xf0\x9f\x8d\x8f"`,
		"\"\n\"", "\"\t\"", "\"\x00\"", "\"\x7f\"", "\"\u0085\"", "\"\xc2\\x85\"", "\"\\xc2\x85\"",
		"\"\xff\"", "\"a\xe2\x82\"", "\"\\\xff\"", "\"\xed\xa0\x80\"", "\xff\"\"", "\"\"\xff",
	} {
		wantRefused(t, quoted)
	}
}

// P5.1, P5.5: of all runes just those of the chapter are no plain word, and just those are told otherwise than by themselves.
func TestQuoteRunes(t *testing.T) {
	for r := rune(0); r <= 0x10ffff; r++ {
		if r >= 0xd800 && r < 0xe000 {
			continue // of which there is no text
		}
		text := "a" + string(r)
		held := r < 0x20 || r >= 0x7f && r <= 0x9f || r == 0x22 || r == 0x5c
		if quote.Plain(text) != (!held && r != 0x20) {
			t.Errorf("Plain of a and %04x", r)
		}
		quoted := quote.Quote(text)
		if (quoted == "\""+text+"\"") == held {
			t.Errorf("Quote of a and %04x: %q", r, quoted)
		}
		wantUnquote(t, quoted, text)
	}
	for b := 0x80; b < 0x100; b++ {
		text := string([]byte{byte(b)})
		wantPlain(t, text, false)
		wantPlain(t, "a"+text, false)
		wantQuote(t, text+"a", `"\x`+string([]byte{"89abcdef"[b/16-8], "0123456789abcdef"[b%16]})+`a"`)
	}
}

// P5.1: words and lines of them.
func TestWordAndLine(t *testing.T) {
	for text, asked := range map[string]string{
		"a":      "a",
		"a/b#":   "a/b#",
		"é":      "é",
		"\ufffd": "\ufffd",
		"":       `""`,
		"#":      `"#"`,
		"a b":    `"a b"`,
		" ":      `" "`,
		"a\"":    `"a\""`,
		"a\\":    `"a\\"`,
		"a\n":    `"a\n"`,
		"\xff":   `"\xff"`,
	} {
		wantWord(t, text, asked)
	}
	wantLine(t, nil, "")
	wantLine(t, []string{""}, `""`)
	wantLine(t, []string{"", ""}, `"" ""`)
	wantLine(t, []string{"a"}, "a")
	wantLine(t, []string{"a", "b", "c"}, "a b c")
	wantLine(t, []string{"#", "#", " "}, `"#" "#" " "`)
	wantLine(t, []string{"a", "\n", "é#"}, `a "\n" é#`)
	words := []string{"a", "b c", "d"}
	quote.Line(words[:2]...)
	if words[0] != "a" || words[1] != "b c" || words[2] != "d" {
		t.Errorf("Line changed its words to %q", words)
	}
}

// formAt is how many bytes the form has that begins there, by the table of UTF-8; 0, if none does.
func formAt(text string) int {
	first := text[0]
	low, high, n := byte(0x80), byte(0xbf), 0
	switch {
	case first < 0x80:
		return 1
	case first >= 0xc2 && first <= 0xdf:
		n = 2
	case first >= 0xe0 && first <= 0xef:
		n = 3
	case first >= 0xf0 && first <= 0xf4:
		n = 4
	}
	switch first {
	case 0xe0:
		low = 0xa0
	case 0xed:
		high = 0x9f
	case 0xf0:
		low = 0x90
	case 0xf4:
		high = 0x8f
	}
	if n == 0 || len(text) < n || text[1] < low || text[1] > high {
		return 0
	}
	for k := 2; k < n; k++ {
		if text[k]&0xc0 != 0x80 {
			return 0
		}
	}
	return n
}

// The ways in which a piece is quoted.
const (
	asItIs = iota
	byBackslash
	byFeed
	byDigits
)

// pieceOf is how many bytes the piece has with which a text begins, and how it is quoted, by the chapter's words.
func pieceOf(text string) (int, int) {
	n := formAt(text)
	switch {
	case n == 0:
		return 1, byDigits
	case text[0] == '"' || text[0] == '\\':
		return 1, byBackslash
	case text[0] == 10:
		return 1, byFeed
	case n == 1 && (text[0] < 0x20 || text[0] == 0x7f), n == 2 && text[0] == 0xc2 && text[1] <= 0x9f:
		return n, byDigits
	}
	return n, asItIs
}

func quoteOf(text string) string {
	quoted := `"`
	for text != "" {
		n, way := pieceOf(text)
		switch way {
		case asItIs:
			quoted += text[:n]
		case byBackslash:
			quoted += `\` + text[:n]
		case byFeed:
			quoted += `\n`
		case byDigits:
			for k := range n {
				quoted += `\x` + string("0123456789abcdef"[text[k]/16]) + string("0123456789abcdef"[text[k]%16])
			}
		}
		text = text[n:]
	}
	return quoted + `"`
}

// unquoteOf reads the bytes together with the way in which each was told, and then holds each piece of them against the way that the chapter asks for.
func unquoteOf(quoted string) (string, bool) {
	if len(quoted) < 2 || quoted[0] != '"' || quoted[len(quoted)-1] != '"' {
		return "", false
	}
	text, ways := "", []int{}
	for rest := quoted[1 : len(quoted)-1]; rest != ""; {
		way, b, n := asItIs, rest[0], 1
		switch {
		case rest[0] == '"':
			return "", false
		case rest[0] != '\\':
		case len(rest) > 1 && (rest[1] == '"' || rest[1] == '\\'):
			way, b, n = byBackslash, rest[1], 2
		case len(rest) > 1 && rest[1] == 'n':
			way, b, n = byFeed, 10, 2
		case len(rest) > 3 && rest[1] == 'x' && hexOf(rest[2]) >= 0 && hexOf(rest[3]) >= 0:
			way, b, n = byDigits, byte(hexOf(rest[2])*16+hexOf(rest[3])), 4
		default:
			return "", false
		}
		text += string([]byte{b})
		ways = append(ways, way)
		rest = rest[n:]
	}
	for at := 0; at < len(text); {
		n, way := pieceOf(text[at:])
		for range n {
			if ways[at] != way {
				return "", false
			}
			at++
		}
	}
	return text, true
}

func hexOf(b byte) int {
	switch {
	case b >= '0' && b <= '9':
		return int(b - '0')
	case b >= 'a' && b <= 'f':
		return int(b-'a') + 10
	}
	return -1
}

func plainOf(text string) bool {
	for at := 0; at < len(text); {
		n, way := pieceOf(text[at:])
		if way != asItIs || text[at] == ' ' {
			return false
		}
		at += n
	}
	return text != "" && text[0] != '#'
}

// holdQuoted holds a text against the model, as one to be quoted, and as one that is.
func holdQuoted(t *testing.T, text string) {
	t.Helper()
	wantPlain(t, text, plainOf(text))
	wantQuote(t, text, quoteOf(text))
	for _, quoted := range []string{text, `"` + text + `"`} {
		if asked, ok := unquoteOf(quoted); ok {
			wantUnquote(t, quoted, asked)
		} else {
			wantRefused(t, quoted)
		}
	}
}

// P5.1: all short texts of some bytes, and many longer ones, held against the model.
func TestQuotedByModel(t *testing.T) {
	for _, of := range []string{"a# \"\\\n", "\\xc285", "\\nx0f\"", "\xe2\x82\xac\\\xc2"} {
		for _, text := range shortTexts(of, 6) {
			holdQuoted(t, text)
		}
	}
	r := rand.New(rand.NewSource(5))
	for range 100000 {
		holdQuoted(t, randomText(r))
	}
}

// shortTexts is all texts of at most so many of some bytes.
func shortTexts(of string, most int) []string {
	all, last := []string{""}, []string{""}
	for range most {
		var next []string
		for _, text := range last {
			for k := range len(of) {
				next = append(next, text+of[k:k+1])
			}
		}
		all = append(all, next...)
		last = next
	}
	return all
}

// randomText is pieces that are at home in lines, some of them quoted, some cut off, some of any bytes.
func randomText(r *rand.Rand) string {
	common := []string{"a", "bc", " ", " ", "  ", "#", "\"", "\\", "\\\\", "\\\"", "\\n", "\\x", "\\xff", "\\x09", "\\xc2\\x85", "é", "/", "0"}
	rare := []string{"\xff", "\x00", "\n", "\t", "\x7f", "\u0085", "\ufffd", "\u00a0", "\xef\xbf", "\xc2", "\x85", "\xed\xa0\x80", "\xf0\x9f\x8d\x8f", "\\x41", "\\xe2\\x82\\xac"}
	var text strings.Builder
	for range r.Intn([]int{3, 6, 12, 30}[r.Intn(4)]) {
		switch r.Intn(8) {
		case 0:
			text.WriteString(rare[r.Intn(len(rare))])
		case 1:
			text.WriteByte(byte(r.Intn(256)))
		case 2:
			text.WriteString(" " + quoteOf(common[r.Intn(len(common))]+rare[r.Intn(len(rare))]) + " ")
		default:
			text.WriteString(common[r.Intn(len(common))])
		}
	}
	return text.String()
}

// P5.4: whatever bytes a text has, it comes back; quoted it is right, and has no controls.
func TestThereAndBackQuoted(t *testing.T) {
	r := rand.New(rand.NewSource(54))
	for range 50000 {
		text := anyBytes(r, 40)
		quoted := quote.Quote(text)
		wantUnquote(t, quoted, text)
		for at := 0; at < len(quoted); {
			n := formAt(quoted[at:])
			if n == 0 || quoted[at] < 0x20 || quoted[at] == 0x7f || quoted[at] == 0xc2 && quoted[at+1] < 0xa0 {
				t.Fatalf("Quote(%q): %q, at %d", text, quoted, at)
			}
			at += n
		}
	}
	all := make([]byte, 256)
	for k := range all {
		all[k] = byte(k)
	}
	wantUnquote(t, quote.Quote(string(all)), string(all))
	long := strings.Repeat("\xff\"é\x00", 1<<18)
	wantUnquote(t, quote.Quote(long), long)
}

// anyBytes is a text of any bytes, shorter than most.
func anyBytes(r *rand.Rand, most int) string {
	text := make([]byte, r.Intn(most))
	for k := range text {
		text[k] = byte(r.Intn(256))
		if r.Intn(3) == 0 {
			text[k] = "\"\\ #\n\xc2\x85\xe2\x82\xacxn"[r.Intn(12)]
		}
	}
	return string(text)
}

// P5.5: a right text without controls, quotes and backslashes stands as it is between two quotes; a range over what is quoted tells no broken byte.
func TestQuoteOfRunes(t *testing.T) {
	r := rand.New(rand.NewSource(55))
	for range 20000 {
		var runes []rune
		for range r.Intn(12) {
			c := rune(r.Intn([]int{0x80, 0x180, 0x3000, 0x110000}[r.Intn(4)]))
			if c < 0x20 || c >= 0x7f && c <= 0x9f || c == '"' || c == '\\' || c >= 0xd800 && c < 0xe000 {
				c = 0xfffd
			}
			runes = append(runes, c)
		}
		wantQuote(t, string(runes), "\""+string(runes)+"\"")
	}
	for range 20000 {
		quoted := quote.Quote(anyBytes(r, 30))
		for at, c := range quoted {
			if c == 0xfffd && !strings.HasPrefix(quoted[at:], "\xef\xbf\xbd") {
				t.Fatalf("%q has a broken byte at %d", quoted, at)
			}
		}
	}
}
