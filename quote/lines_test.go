package quote_test

import (
	"math/rand"
	"slices"
	"strconv"
	"strings"
	"testing"

	"espalier/quote"
)

func wantLines(t *testing.T, text string, asked ...string) {
	t.Helper()
	var lines []string
	for number, line := range quote.Lines(text) {
		if number != len(lines) {
			t.Errorf("Lines(%q): number %d for line %d", text, number, len(lines))
		}
		lines = append(lines, line)
	}
	if !slices.Equal(lines, asked) {
		t.Errorf("Lines(%q): %q, not %q", text, lines, asked)
	}
}

func wantNumber(t *testing.T, text string, asked int) {
	t.Helper()
	if number, ok := quote.Number(text); number != asked || !ok {
		t.Errorf("Number(%q): %d %t, not %d", text, number, ok, asked)
	}
}

func wantNoNumber(t *testing.T, text string) {
	t.Helper()
	if number, ok := quote.Number(text); number != 0 || ok {
		t.Errorf("Number(%q): %d %t", text, number, ok)
	}
}

// The chapter's rows of Lines and Number.
func TestExamplesLines(t *testing.T) {
	wantLines(t, "a\n\nb", "a", "", "b")
	wantLines(t, "a\n", "a")
	wantLines(t, "")
	wantNumber(t, "12", 12)
	wantNumber(t, "-3", -3)
	wantNoNumber(t, "012")
	wantNoNumber(t, "-0")
	wantNoNumber(t, "1234567890123456789")
	wantNoNumber(t, "")
}

// P5.3: only a byte 10 parts lines.
func TestLinesEdges(t *testing.T) {
	wantLines(t, "a", "a")
	wantLines(t, "\n", "")
	wantLines(t, "\n\n", "", "")
	wantLines(t, "\na", "", "a")
	wantLines(t, "\n\na\n\n", "", "", "a", "")
	wantLines(t, "a\r\nb\r", "a\r", "b\r")
	wantLines(t, "a\u2028b\u0085c\x0bd\x0c", "a\u2028b\u0085c\x0bd\x0c")
	wantLines(t, "\xff\n\xe2\x82\n\xac", "\xff", "\xe2\x82", "\xac")
	wantLines(t, "\xe2\n\x82\xac\n", "\xe2", "\x82\xac")
	wantLines(t, "é\n\ufffd\n \n", "é", "\ufffd", " ")
	wantLines(t, "\"a\nb\"", "\"a", "b\"")
	wantLines(t, strings.Repeat("\n", 1000), make([]string, 1000)...)
}

// P5.3, R6: the lines may be left early, at each of them, and gone through again from the first one on.
func TestLinesAgain(t *testing.T) {
	lines := quote.Lines("a\nb\nc")
	for most := 1; most <= 3; most++ {
		told := ""
		for number, line := range lines {
			told += strconv.Itoa(number) + line
			if len(told) == 2*most {
				break
			}
		}
		if told != "0a1b2c"[:2*most] {
			t.Errorf("left behind %d: %s", most, told)
		}
	}
	told := ""
	for _, outer := range lines {
		for _, inner := range lines {
			told += outer + inner
		}
	}
	if told != "aaabacbabbbccacbcc" {
		t.Errorf("one within another: %s", told)
	}
}

// P5.4: the lines, with a byte 10 behind each, are the text, or the text and a byte 10; no line has one.
func TestThereAndBackLines(t *testing.T) {
	r := rand.New(rand.NewSource(53))
	texts := shortTexts("a\n\xc2", 8)
	for range 20000 {
		texts = append(texts, anyBytes(r, 30))
	}
	for _, text := range texts {
		back := ""
		for _, line := range quote.Lines(text) {
			if strings.Contains(line, "\n") {
				t.Errorf("Lines(%q): %q", text, line)
			}
			back += line + "\n"
		}
		asked := text
		if text != "" && !strings.HasSuffix(text, "\n") {
			asked += "\n"
		}
		if back != asked {
			t.Errorf("Lines(%q): %q", text, back)
		}
	}
}

// P5.3: numbers, and their limit.
func TestNumbers(t *testing.T) {
	wantNumber(t, "0", 0)
	wantNumber(t, "9", 9)
	wantNumber(t, "-1", -1)
	wantNumber(t, "10", 10)
	wantNumber(t, "-100", -100)
	wantNumber(t, "123456789012345678", 123456789012345678)
	wantNumber(t, "999999999999999999", 999999999999999999)
	wantNumber(t, "-999999999999999999", -999999999999999999)
	wantNumber(t, "100000000000000000", 100000000000000000)
	for _, text := range []string{
		"-", "--1", "+1", "+", "00", "-00", "-01", "01", "0-", "1-", "1-2", " 1", "1 ", "1\n", "1.0", "1e3", "1_0", "0x1", "x",
		"a", "1a", "é", "١", "1٢", "１", "\xff", "1\xff", "-\xff", "\x00", "1\x00", "/", ":", "1/", "1:",
		"1000000000000000000", "-1000000000000000000", "000000000000000000", "9223372036854775807", "18446744073709551617",
		strings.Repeat("1", 1<<20), "-" + strings.Repeat("0", 40), "00000000000000000001",
	} {
		wantNoNumber(t, text)
	}
}

// P5.3: a text is a number just if that number, written down, is it.
func TestNumbersByModel(t *testing.T) {
	r := rand.New(rand.NewSource(531))
	texts := shortTexts("-019/", 6)
	for range 50000 {
		texts = append(texts, strconv.FormatInt(r.Int63()>>uint(r.Intn(63)), 10), strconv.FormatInt(-(r.Int63()>>uint(r.Intn(63))), 10))
	}
	for _, text := range texts {
		number, err := strconv.Atoi(text)
		if err == nil && strconv.Itoa(number) == text && len(strings.TrimPrefix(text, "-")) <= 18 {
			wantNumber(t, text, number)
		} else {
			wantNoNumber(t, text)
		}
	}
}
