package pathmap

import "espalier/api"

// Inverse: P14.5. Of a DropRule the upper rule is there, and lets rows through: else it would not stand in the one form.
func (m *Map) Inverse() *Map {
	if m == nil {
		return nil
	}
	back := table{}
	for _, r := range m.rules {
		if lets(r) {
			back[target(r)] = move(target(r), r.From)
			continue
		}
		if from := moved(m.table.upper(r.From), r.From); isPath(from) {
			back[from] = drop(from)
		}
	}
	return mapOf(back.oneForm())
}

// Compose: P14.6. Whether rows are let through changes, from a row to those in it, at Froms of the first Map alone, and at what goes by it to Froms of the second one.
func Compose(a, b *Map) (*Map, api.Errno) {
	if a == nil || b == nil {
		return nil, api.ErrNil
	}
	both := table{}
	for _, r := range a.rules {
		both[r.From] = ruleThrough(a, b, r.From)
	}
	for _, r := range b.rules {
		if row, there := a.source(r.From); there {
			both[row] = ruleThrough(a, b, row)
		}
	}
	form := both.oneForm()
	if tooLong(form) {
		return nil, api.ErrLong
	}
	return mapOf(form), api.OK
}

// ruleThrough is what a rule of just that row would have to say for both Maps, one behind the other.
func ruleThrough(a, b *Map, row string) api.Rule {
	image, there := a.image(row)
	if there {
		image, there = b.image(image)
	}
	if !there {
		return drop(row)
	}
	return move(row, image)
}

// tooLong says whether rules of rows are more than a Map has, or have rows that are no paths.
func tooLong(form []api.Rule) bool {
	for _, r := range form {
		if !isPath(r.From) || !isPath(r.To) {
			return true
		}
	}
	return len(form) > api.MaxRules
}
