package quote

import "espalier/api"

// Words: P5.2.
// Whatever parts words is a byte below 80, which no form and no broken byte has in it, so the line is gone through by bytes.
func Words(line string) ([]string, api.Spot) {
	var words []string
	var word string
	var right bool
	begin, at := 0, 0

between:
	if at == len(line) || line[at] == '#' {
		return words, api.Spot{}
	}
	if line[at] == ' ' {
		at++
		goto between
	}
	begin = at
	if line[at] == '"' {
		goto quoted
	}

plain:
	at++
	if !ends(line, at) {
		goto plain
	}
	word, right = line[begin:at], Plain(line[begin:at])
	goto behind

quoted:
	at++
	if at >= len(line) {
		goto wrong
	}
	if line[at] == '\\' {
		at++ // what it takes ends no word
		goto quoted
	}
	if line[at] != '"' {
		goto quoted
	}
	at++
	word, right = Unquote(line[begin:at])

behind:
	if !right || !ends(line, at) {
		goto wrong
	}
	words = append(words, word)
	goto between

wrong:
	return nil, api.Spot{Err: api.ErrWord, At: begin}
}

// ends says whether a word may end ahead of that place.
func ends(line string, at int) bool {
	return at == len(line) || line[at] == ' '
}
