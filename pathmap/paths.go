package pathmap

import (
	"espalier/api"
	"espalier/name"
)

// Image: P14.3.
func (m *Map) Image(path string) (string, api.Errno) {
	if m == nil {
		return "", api.ErrNil
	}
	return pathThrough(m.image, path)
}

// Source: P14.3.
func (m *Map) Source(image string) (string, api.Errno) {
	if m == nil {
		return "", api.ErrNil
	}
	return pathThrough(m.source, image)
}

// pathThrough is a path by what is told of rows, where that is a path, too.
func pathThrough(through func(string) (string, bool), path string) (string, api.Errno) {
	if spot := name.Path(path); spot.Err != api.OK {
		return "", spot.Err
	}
	row, there := through(path)
	switch {
	case !there:
		return "", api.ErrNone
	case !isPath(row):
		return "", api.ErrLong
	}
	return row, api.OK
}

// image is the image of a row, and whether it has one.
func (m *Map) image(row string) (string, bool) {
	r := m.table.rule(row)
	if !lets(r) {
		return "", false
	}
	return moved(r, row), true
}

// source is the row of which another one is the image, and whether there is one. As rules agree, an image goes back to the same row by each of them in whose To it lies: so the first one will do.
func (m *Map) source(image string) (string, bool) {
	for _, r := range m.rules {
		if !lets(r) {
			continue
		}
		left, lies := rest(image, target(r))
		if !lies {
			continue
		}
		row := join(r.From, left)
		if !lets(m.table.rule(row)) {
			return "", false
		}
		return row, true
	}
	return "", false
}

// Rule: P14.3.
func (m *Map) Rule(path string) (api.Rule, bool) {
	if m == nil || !isPath(path) {
		return api.Rule{}, false
	}
	r := m.table.rule(path)
	return r, r != api.Rule{}
}

// Tops: P14.4. In a one form each DropRule lies in a rule that lets rows through, and so does each rule below it: those without an upper rule are the tops.
func (m *Map) Tops() []api.Rule {
	return m.those(func(r api.Rule) bool {
		return m.table.upper(r.From) == api.Rule{}
	})
}

// Below: P14.4.
func (m *Map) Below(path string) []api.Rule {
	if !isPath(path) {
		return nil
	}
	return m.those(func(r api.Rule) bool {
		left, _ := rest(r.From, path)
		return left != ""
	})
}

// those is the rules of the one form that are asked for, in its order.
func (m *Map) those(asked func(api.Rule) bool) []api.Rule {
	if m == nil {
		return nil
	}
	var rules []api.Rule
	for _, r := range m.rules {
		if asked(r) {
			rules = append(rules, r)
		}
	}
	return rules
}
