package name_test

import (
	"math/rand"
	"strings"
	"testing"

	"espalier/api"
	"espalier/name"
)

// wrong is a Spot of what is no name, long one of what passes a limit.
func wrong(at int) api.Spot { return api.Spot{Err: api.ErrName, At: at} }
func long(at int) api.Spot  { return api.Spot{Err: api.ErrLong, At: at} }

func wantCheck(t *testing.T, text string, asked api.Spot) {
	t.Helper()
	if spot := name.Check(text); spot != asked {
		t.Errorf("Check(%q): %v, not %v", text, spot, asked)
	}
}

func wantPath(t *testing.T, text string, asked api.Spot) {
	t.Helper()
	if spot := name.Path(text); spot != asked {
		t.Errorf("Path(%q): %v, not %v", text, spot, asked)
	}
}

// letters is n letters a, row that letter as n names.
func letters(n int) string { return strings.Repeat("a", n) }
func row(n int) string     { return strings.TrimSuffix(strings.Repeat("a/", n), "/") }

// The chapter's rows of Check and Path.
func TestExamplesChecks(t *testing.T) {
	none := api.Spot{}
	wantCheck(t, "a b", none)
	wantCheck(t, "é", none)
	wantCheck(t, ".", wrong(0))
	wantCheck(t, "...", none)
	wantCheck(t, "", wrong(0))
	wantCheck(t, "a/b", wrong(1))
	wantCheck(t, "a\x01", wrong(1))
	wantCheck(t, "a\xff", wrong(1))
	wantCheck(t, "a\xef\xbf\xbd", none)
	wantCheck(t, letters(33), long(32))
	wantCheck(t, letters(32)+"\xff", long(32))
	wantCheck(t, "a\xed\xa0\x80", wrong(1))
	wantPath(t, "", none)
	wantPath(t, "a/b", none)
	wantPath(t, "/a", wrong(0))
	wantPath(t, "a/", wrong(2))
	wantPath(t, "a//b", wrong(2))
	wantPath(t, "a/../b", wrong(2))
	wantPath(t, row(17), long(32))
	wantPath(t, letters(201), long(200))
}

// P4.1: points, limits, and which comes first.
func TestCheckEdges(t *testing.T) {
	none := api.Spot{}
	for text, asked := range map[string]api.Spot{
		"..":                         wrong(0),
		"..a":                        none,
		".a":                         none,
		"a.":                         none,
		"./":                         wrong(1),
		"/":                          wrong(0),
		" ":                          none,
		"\\":                         none,
		"a\x00b\x01":                 wrong(1),
		"a\x1f":                      wrong(1),
		"a\x7f":                      wrong(1),
		"a\u0080\u009f\u2028":        none,
		"\ufffd\ufffd":               none,
		"\ufffd\xff":                 wrong(3),
		"\xef\xbf":                   wrong(0),
		"a\xef\xbfb":                 wrong(1),
		"\xef\xbf\xbd\xbd":           wrong(3),
		"a\xc0\xaf":                  wrong(1), // a stroke at too great a length
		"\xf0\x9f\x8d\x8f":           none,
		"é\xf0\x9f\x8d":              wrong(2),
		"\xf4\x90\x80\x80":           wrong(0), // behind the last rune
		"é\n\xff":                    wrong(2),
		"é\xff\n":                    wrong(2),
		letters(32):                  none,
		letters(31) + "\xff":         wrong(31),
		letters(31) + "é":            long(32),
		letters(30) + "é":            none,
		"\xff" + letters(32):         long(32),
		strings.Repeat(".", 33):      long(32),
		strings.Repeat("a/", 100000): long(32),
	} {
		wantCheck(t, text, asked)
	}
}

// P4.1: of all runes just those of the chapter are none of a name's, and each byte by itself from 80 on is broken.
func TestCheckRunes(t *testing.T) {
	for r := rune(0); r <= 0x10ffff; r++ {
		if r >= 0xd800 && r < 0xe000 {
			continue // of which there is no text
		}
		asked := api.Spot{}
		if r < 0x20 || r == 0x7f || r == 0x2f {
			asked = wrong(1)
		}
		if spot := name.Check("a" + string(r)); spot != asked {
			t.Errorf("Check of a and %04x: %v, not %v", r, spot, asked)
		}
	}
	for b := 0x80; b < 0x100; b++ {
		wantCheck(t, "ab"+string([]byte{byte(b)}), wrong(2))
		wantCheck(t, string([]byte{byte(b), 'a'}), wrong(0))
		wantPath(t, "é/"+string([]byte{byte(b), '/', 'a'}), wrong(3))
	}
}

// P4.1: name by name, in order; places are counted from the path's beginning.
func TestPathEdges(t *testing.T) {
	none := api.Spot{}
	most := strings.Repeat(letters(24)+"/", 7) + letters(25) // 200 bytes, 8 names
	for text, asked := range map[string]api.Spot{
		"/":                                  wrong(0),
		"//":                                 wrong(0),
		"a":                                  none,
		".":                                  wrong(0),
		"..":                                 wrong(0),
		".../....":                           none,
		"a/.":                                wrong(2),
		"a/b\xff/\x00":                       wrong(3),
		"a\x00/":                             wrong(1),
		"é/é\x1f":                            wrong(5),
		"\xe2/a":                             wrong(0),
		"a/\xe2\x82/b":                       wrong(2),
		"\ufffd/\ufffd":                      none,
		letters(32) + "/" + letters(32):      none,
		"a/" + letters(33):                   long(34),
		letters(33) + "/":                    long(32),
		letters(33) + "/\xff":                long(32),
		"\xff/" + letters(33):                wrong(0),
		row(16):                              none,
		row(16) + "/":                        long(32),
		row(16) + "//":                       long(32),
		row(16) + "/\xff":                    long(32),
		row(16) + "/" + letters(33):          long(32),
		row(15) + "/\xff/a":                  wrong(30),
		row(15) + "//a":                      wrong(30),
		"ab/" + row(16):                      long(33),
		most:                                 none,
		most + "a":                           long(200),
		strings.Repeat("/", 200):             wrong(0),
		strings.Repeat("/", 201):             long(200),
		strings.Repeat("a/", 1<<20):          long(200),
		"\xff" + letters(200):                long(200),
		strings.Repeat(letters(8)+"/", 22):   long(9 * 16),
		strings.Repeat(letters(33)+"/", 2):   long(32),
		strings.Repeat("é", 16):              none,
		strings.Repeat("é", 17):              long(32),
		"a/" + strings.Repeat("é", 17):       long(34),
		strings.Repeat("aé/", 15) + "a\x7fb": wrong(61),
	} {
		wantPath(t, text, asked)
	}
}

// checkOf and pathOf are the chapter's words, written down once more without a range over a string.
func checkOf(text string) api.Spot {
	if text == "" || text == "." || text == ".." {
		return wrong(0)
	}
	if len(text) > 32 {
		return long(32)
	}
	for at := 0; at < len(text); {
		n := width(text[at:])
		if n == 0 || n == 1 && (text[at] < 0x20 || text[at] == 0x7f || text[at] == '/') {
			return wrong(at)
		}
		at += n
	}
	return api.Spot{}
}

// width is how many bytes the rune has with which a text begins; 0, if it begins with a broken byte.
func width(text string) int {
	first := text[0]
	low, high, n := byte(0x80), byte(0xbf), 0
	switch {
	case first < 0x80:
		return 1
	case first >= 0xc2 && first <= 0xdf:
		n = 2
	case first >= 0xe0 && first <= 0xef:
		n = 3
	case first >= 0xf0 && first <= 0xf4:
		n = 4
	}
	switch first {
	case 0xe0:
		low = 0xa0
	case 0xed:
		high = 0x9f
	case 0xf0:
		low = 0x90
	case 0xf4:
		high = 0x8f
	}
	if n == 0 || len(text) < n || text[1] < low || text[1] > high {
		return 0
	}
	for k := 2; k < n; k++ {
		if text[k]&0xc0 != 0x80 {
			return 0
		}
	}
	return n
}

func pathOf(text string) api.Spot {
	if len(text) > 200 {
		return long(200)
	}
	if text == "" {
		return api.Spot{}
	}
	at := 0
	for k, piece := range strings.Split(text, "/") {
		if k == 16 {
			return long(at)
		}
		if spot := checkOf(piece); spot.Err != api.OK {
			return api.Spot{Err: spot.Err, At: at + spot.At}
		}
		at += len(piece) + 1
	}
	return api.Spot{}
}

// P4.1: all short texts of some bytes, and many longer ones, held against the model.
func TestChecksByModel(t *testing.T) {
	for text := range shortTexts("a./\x1f\xe2\x82\xac", 5) {
		wantCheck(t, text, checkOf(text))
		wantPath(t, text, pathOf(text))
	}
	r := rand.New(rand.NewSource(4))
	for range 100000 {
		text := randomText(r)
		wantCheck(t, text, checkOf(text))
		wantPath(t, text, pathOf(text))
	}
}

// shortTexts is all texts of at most so many of some bytes.
func shortTexts(of string, most int) map[string]int {
	all := map[string]int{"": 0}
	last := []string{""}
	for range most {
		var next []string
		for _, text := range last {
			for k := range len(of) {
				next = append(next, text+of[k:k+1])
			}
		}
		for _, text := range next {
			all[text] = len(text)
		}
		last = next
	}
	return all
}

// randomText is pieces with strokes, some of which are near a limit or wrong.
func randomText(r *rand.Rand) string {
	common := []string{"a", "b", "ab", "a.b", "é", "...", "\ufffd", "a b"}
	rare := []string{"", ".", "..", "\xff", "a\x00", "\x7f", "\xed\xa0\x80", "\xe2\x82", letters(32), letters(33), letters(31) + "é"}
	pieces := make([]string, r.Intn([]int{2, 4, 17, 20}[r.Intn(4)]))
	for k := range pieces {
		pieces[k] = common[r.Intn(len(common))]
		if r.Intn(12) == 0 {
			pieces[k] = rare[r.Intn(len(rare))]
		}
		if r.Intn(6) == 0 {
			pieces[k] = letters(1 + r.Intn(32))
		}
	}
	return strings.Join(pieces, "/")
}
