package rule

import (
	"espalier/api"
	"espalier/quote"
)

// maxText is how many bytes a text of rules has at most.
const maxText = 1 << 17

// Read: P13.2.
func Read(text string) ([]api.Rule, api.Spot) {
	if len(text) > maxText {
		return nil, api.Spot{Err: api.ErrLong}
	}
	var rules []api.Rule
	begin := 0
	for _, line := range quote.Lines(text) {
		r, spot := readLine(line)
		says := r != api.Rule{}
		if says && len(rules) == api.MaxRules {
			spot.Err = api.ErrLong
		}
		if spot.Err != api.OK {
			return nil, api.Spot{Err: spot.Err, At: begin + spot.At}
		}
		if says {
			rules = append(rules, r)
		}
		begin += len(line) + 1
	}
	return rules, api.Spot{}
}

// readLine is the rule of a line, or what is wrong there; of a line that says nothing the zero rule, which may not be and so is no line's.
func readLine(line string) (api.Rule, api.Spot) {
	words, spot := quote.Words(line)
	if spot.Err != api.OK || len(words) == 0 {
		return api.Rule{}, spot
	}
	r := ruleOf(words)
	if r == (api.Rule{}) {
		return r, api.Spot{Err: api.ErrRule}
	}
	return r, api.Spot{}
}

// ruleOf is the rule whose line has these words; the zero rule, if they are no rule's.
func ruleOf(words []string) api.Rule {
	kind, asked := kindOf(words[0])
	if len(words) != asked {
		return api.Rule{}
	}
	from, one := pathOf(words[1])
	last, two := pathOf(words[asked-1]) // of a rule that moves nothing the same word
	if !one || !two {
		return api.Rule{}
	}
	if kind != api.MoveRule {
		return api.Rule{Kind: kind, From: from}
	}
	return api.Rule{Kind: kind, From: from, To: last}
}

// kindOf is the kind of the rules whose lines begin with that word, and how many words these have; none begins with any other one.
func kindOf(word string) (int, int) {
	switch word {
	case keepWord:
		return api.KeepRule, 2
	case dropWord:
		return api.DropRule, 2
	case moveWord:
		return api.MoveRule, 3
	}
	return 0, 0
}

// pathOf is the path that has that word. The root's own text is the word of none.
func pathOf(word string) (string, bool) {
	switch {
	case word == rootWord:
		return "", true
	case word == "" || !isPath(word):
		return "", false
	}
	return word, true
}
