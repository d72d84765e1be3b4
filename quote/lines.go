package quote

import (
	"iter"
	"strings"
)

// mostDigits is how many digits a number has at most: so many of any kind are an int.
const mostDigits = 18

// Lines: P5.3.
func Lines(text string) iter.Seq2[int, string] {
	return func(yield func(int, string) bool) {
		begin, number := 0, 0
		for at, r := range text {
			if r != '\n' {
				continue
			}
			if !yield(number, text[begin:at]) {
				return
			}
			begin = at + 1
			number++
		}
		if begin < len(text) {
			yield(number, text[begin:])
		}
	}
}

// Number: P5.3.
func Number(s string) (int, bool) {
	row, below := strings.CutPrefix(s, "-")
	if row == "" || len(row) > mostDigits {
		return 0, false
	}
	if row[0] == '0' && (below || len(row) > 1) {
		return 0, false
	}
	number := 0
	for _, r := range row {
		if r < '0' || r > '9' {
			return 0, false
		}
		number = number*10 + int(r-'0')
	}
	if below {
		number = -number
	}
	return number, true
}
