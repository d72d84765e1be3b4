package pathmap_test

import (
	"fmt"
	"math/rand"
	"slices"
	"strings"
	"testing"

	"espalier/api"
	"espalier/name"
	"espalier/pathmap"
)

// The model: the chapter's words, written down once more, on rows of names as lists.

func names(row string) []string {
	if row == "" {
		return nil
	}
	return strings.Split(row, "/")
}

func text(names []string) string { return strings.Join(names, "/") }

func begins(names, with []string) bool {
	return len(names) >= len(with) && slices.Equal(names[:len(with)], with)
}

func passes(r api.Rule) bool { return r.Kind == 1 || r.Kind == 3 }

func toOf(r api.Rule) []string {
	if r.Kind == 1 {
		return names(r.From)
	}
	return names(r.To)
}

// ruleOf is the rule of a row by a set; the zero rule, if there is none.
func ruleOf(set []api.Rule, row []string) api.Rule {
	var best api.Rule
	for _, r := range set {
		if begins(row, names(r.From)) && (best.Kind == 0 || len(names(r.From)) > len(names(best.From))) {
			best = r
		}
	}
	return best
}

func imageOf(set []api.Rule, row []string) ([]string, bool) {
	r := ruleOf(set, row)
	if !passes(r) {
		return nil, false
	}
	return slices.Concat(toOf(r), row[len(names(r.From)):]), true
}

// sourcesOf is all rows of which another one is the image.
func sourcesOf(set []api.Rule, image []string) []string {
	var rows []string
	for _, r := range set {
		if !passes(r) || !begins(image, toOf(r)) {
			continue
		}
		row := slices.Concat(names(r.From), image[len(toOf(r)):])
		if back, there := imageOf(set, row); there && slices.Equal(back, image) && !slices.Contains(rows, text(row)) {
			rows = append(rows, text(row))
		}
	}
	return rows
}

func without(set []api.Rule, r api.Rule) []api.Rule {
	return slices.DeleteFunc(slices.Clone(set), func(s api.Rule) bool { return s == r })
}

// formOf is the one form, rule by rule as the chapter says it.
func formOf(set []api.Rule) []api.Rule {
	var form []api.Rule
	for _, r := range set {
		upper := ruleOf(without(set, r), names(r.From))
		switch {
		case r.Kind == 2 && upper.Kind != 0 && upper.Kind != 2, r.Kind != 2 && (upper.Kind == 0 || upper.Kind == 2):
			if r.Kind == 3 && r.From == r.To {
				r = keep(r.From)
			}
			form = append(form, r)
		}
	}
	slices.SortFunc(form, func(r, s api.Rule) int { return slices.Compare(names(r.From), names(s.From)) })
	return form
}

func overlap(r, s api.Rule) bool {
	if r.Kind == 2 || s.Kind == 2 {
		return false
	}
	in, into := begins(names(r.From), names(s.From)), begins(toOf(r), toOf(s))
	return in != into || in && !slices.Equal(names(r.From)[len(names(s.From)):], toOf(r)[len(toOf(s)):])
}

// faultOf is what New answers of rules each of which may be.
func faultOf(l []api.Rule) api.Fault {
	for i, r := range l {
		for _, s := range l[:i] {
			if r.From == s.From {
				return api.Fault{Err: api.ErrTwice, At: i}
			}
		}
		for _, s := range l[:i] {
			if overlap(r, s) || overlap(s, r) {
				return api.Fault{Err: api.ErrOverlap, At: i}
			}
		}
	}
	return api.Fault{}
}

func isPath(row string) bool { return name.Depth(row) >= 0 }

func holdPath(t *testing.T, m *pathmap.Map, set, form []api.Rule, path string) {
	t.Helper()
	wantRule(t, m, path, ruleOf(form, names(path)))
	switch image, there := imageOf(set, names(path)); {
	case !there:
		wantImage(t, m, path, "", api.ErrNone)
	case !isPath(text(image)):
		wantImage(t, m, path, "", api.ErrLong)
	default:
		wantImage(t, m, path, text(image), api.OK)
	}
	switch rows := sourcesOf(set, names(path)); {
	case len(rows) == 0:
		wantSource(t, m, path, "", api.ErrNone)
	case len(rows) > 1:
		t.Errorf("by %s the rows %q have one image", told(set), rows)
	case !isPath(rows[0]):
		wantSource(t, m, path, "", api.ErrLong)
	default:
		wantSource(t, m, path, rows[0], api.OK)
	}
	below := slices.DeleteFunc(slices.Clone(form), func(r api.Rule) bool {
		return r.From == path || !begins(names(r.From), names(path))
	})
	wantRules(t, "Below "+path+" of "+told(form), m.Below(path), below...)
}

// topsOf is those of a form that lie in no other one, drops left out.
func topsOf(form []api.Rule) []api.Rule {
	return slices.DeleteFunc(slices.Clone(form), func(r api.Rule) bool {
		return r.Kind == 2 || slices.ContainsFunc(form, func(s api.Rule) bool {
			return s != r && s.Kind != 2 && begins(names(r.From), names(s.From))
		})
	})
}

// holdMap holds New of some rules, and all that is asked of one Map, against the model; it answers the Map, if there is one.
func holdMap(t *testing.T, set []api.Rule, paths []string) *pathmap.Map {
	t.Helper()
	m, fault := pathmap.New(set)
	if fault != faultOf(set) || (m == nil) != (fault.Err != api.OK) {
		t.Errorf("New(%s): %v, %v, not %v", told(set), m != nil, fault, faultOf(set))
		return nil
	}
	if m == nil {
		return nil
	}
	form := formOf(set)
	wantRules(t, "Rules of "+told(set), m.Rules(), form...)
	wantRules(t, "Tops of "+told(set), m.Tops(), topsOf(form)...)
	for _, path := range paths {
		holdPath(t, m, set, form, path)
	}
	again, fault := pathmap.New(m.Rules())
	if fault.Err != api.OK || !again.Same(m) || !m.Same(again) || again.Text() != m.Text() || again.Key() != m.Key() {
		t.Errorf("New of the Rules of %s: %v, %s", told(set), fault, told(again.Rules()))
	}
	return m
}

// rowsOf is all rows of at most so many of some names, the root first, a row ahead of those in it.
func rowsOf(depth int, of ...string) []string {
	rows := []string{""}
	if depth == 0 {
		return rows
	}
	for _, first := range of {
		for _, rest := range rowsOf(depth-1, of...) {
			rows = append(rows, strings.TrimSuffix(first+"/"+rest, "/"))
		}
	}
	return rows
}

// rulesOf is all rules whose paths are some rows.
func rulesOf(rows []string) []api.Rule {
	var rules []api.Rule
	for _, from := range rows {
		rules = append(rules, keep(from), drop(from))
		for _, to := range rows {
			rules = append(rules, move(from, to))
		}
	}
	return rules
}

// holdChain holds Compose of two Maps against the model: by the rows at which it changes whether they are let through; all of these have to be among those that are handed in.
func holdChain(t *testing.T, a, b *pathmap.Map, rows []string) {
	t.Helper()
	both := func(row []string) ([]string, bool) {
		image, there := imageOf(a.Rules(), row)
		if !there {
			return nil, false
		}
		return imageOf(b.Rules(), image)
	}
	var form []api.Rule
	for _, row := range rows {
		image, there := both(names(row))
		above := false
		if row != "" {
			_, above = both(names(row)[:len(names(row))-1])
		}
		switch {
		case there == above:
		case !there:
			form = append(form, drop(row))
		case text(image) == row:
			form = append(form, keep(row))
		default:
			form = append(form, move(row, text(image)))
		}
	}
	wantChain(t, a, b, form...)
}

// holdBack holds Inverse of a Map against the model: what the inverse lets through are the images, to their sources.
func holdBack(t *testing.T, m *pathmap.Map, rows []string) {
	t.Helper()
	back := m.Inverse()
	if again, fault := pathmap.New(back.Rules()); fault.Err != api.OK || !again.Same(back) {
		t.Errorf("the Inverse of %s may not be: %s, %v", told(m.Rules()), told(back.Rules()), fault)
	}
	if !back.Inverse().Same(m) {
		t.Errorf("Inverse of Inverse of %s: %s", told(m.Rules()), told(back.Inverse().Rules()))
	}
	for _, row := range rows {
		path, err := m.Source(row)
		wantImage(t, back, row, path, err)
		path, err = m.Image(row)
		wantSource(t, back, row, path, err)
	}
}

// P14.1 to P14.5: all lists of up to three rules of few paths.
func TestSmallSets(t *testing.T) {
	rules := rulesOf(rowsOf(2, "a", "b")[:5]) // the root, a, a/a, a/b, b
	paths := rowsOf(3, "a", "b")
	count := 0
	hold := func(set ...api.Rule) {
		if m := holdMap(t, set, paths); m != nil {
			holdBack(t, m, paths)
			count++
		}
	}
	for _, r := range rules {
		hold(r)
		for _, s := range rules {
			hold(r, s)
			for _, u := range rules {
				hold(r, s, u)
			}
		}
	}
	if count < 1000 {
		t.Errorf("%d of the sets may be", count)
	}
}

// P14.6: all pairs of sets of up to two rules of few paths.
func TestSmallChains(t *testing.T) {
	rules := rulesOf(rowsOf(2, "a", "b")[:4]) // the root, a, a/a, a/b
	rows := rowsOf(4, "a", "b")
	var some []*pathmap.Map
	for k, r := range rules {
		for _, s := range rules[:k+1] {
			m, fault := pathmap.New(slices.Compact(list(r, s)))
			if fault.Err == api.OK && !slices.ContainsFunc(some, m.Same) {
				some = append(some, m)
			}
		}
	}
	for _, a := range some {
		for _, b := range some {
			holdChain(t, a, b, rows)
		}
	}
	if len(some) < 30 {
		t.Errorf("%d Maps", len(some))
	}
}

// randomRow is a row of some names, most of them short.
func randomRow(r *rand.Rand, most int, of ...string) string {
	var row []string
	for range r.Intn(most + 1) {
		row = append(row, of[r.Intn(len(of))])
	}
	return text(row)
}

// randomSet is rules that may be: tops here and there, and below each of them rows that are dropped, and let through again.
func randomSet(r *rand.Rand, most int, of ...string) []api.Rule {
	var set []api.Rule
	add := func(rule api.Rule) {
		if longer := append(slices.Clone(set), rule); faultOf(longer).Err == api.OK {
			set = longer
		}
	}
	for range 1 + r.Intn(3) {
		from := randomRow(r, most, of...)
		switch r.Intn(3) {
		case 0:
			add(keep(from))
		default:
			add(move(from, randomRow(r, most, of...)))
		}
	}
	for range r.Intn(9) {
		row := randomRow(r, most, of...)
		image, there := imageOf(set, names(row))
		switch {
		case there && r.Intn(2) == 0:
			add(move(row, text(image)))
		case there || r.Intn(4) == 0:
			add(drop(row))
		default:
			add(again(set, row))
		}
	}
	r.Shuffle(len(set), func(i, j int) { set[i], set[j] = set[j], set[i] })
	return set
}

// again is a rule that lets a row through at the place which a rule above has for it, if there is one.
func again(set []api.Rule, row string) api.Rule {
	open := slices.DeleteFunc(slices.Clone(set), func(s api.Rule) bool { return s.Kind == 2 })
	if image, there := imageOf(open, names(row)); there {
		return move(row, text(image))
	}
	return keep(row)
}

// P14.1 to P14.7: many sets, alone, back, and one behind the other.
func TestManySets(t *testing.T) {
	r := rand.New(rand.NewSource(14))
	rows := rowsOf(6, "a", "é")
	paths := rowsOf(4, "a", "é")
	deep := 0
	for range 3000 {
		sets := [3][]api.Rule{randomSet(r, 3, "a", "é"), randomSet(r, 3, "a", "é"), randomSet(r, 3, "a", "é")}
		a, b, c := holdMap(t, sets[0], paths), mapOf(t, sets[1]...), mapOf(t, sets[2]...)
		holdBack(t, a, paths)
		holdChain(t, a, b, rows)
		holdThree(t, a, b, c)
		holdFolders(t, a, paths)
		if len(a.Rules()) > 4 {
			deep++
		}
	}
	if deep < 100 {
		t.Errorf("%d sets have more than four rules", deep)
	}
}

// holdThree: P14.7, of Maps whose Compose never is too long.
func holdThree(t *testing.T, a, b, c *pathmap.Map) {
	t.Helper()
	ab, _ := pathmap.Compose(a, b)
	bc, _ := pathmap.Compose(b, c)
	one, err := pathmap.Compose(ab, c)
	two, other := pathmap.Compose(a, bc)
	if err != api.OK || other != api.OK || !one.Same(two) {
		t.Errorf("Compose of %s and %s and %s: %s, %d, and %s, %d", told(a.Rules()), told(b.Rules()), told(c.Rules()), told(one.Rules()), err, told(two.Rules()), other)
	}
	back, err := pathmap.Compose(a, a.Inverse())
	if err != api.OK || slices.ContainsFunc(back.Rules(), func(r api.Rule) bool { return r.Kind == 3 }) {
		t.Errorf("there and back by %s: %s, %d", told(a.Rules()), told(back.Rules()), err)
	}
	wantChain(t, a, pathmap.Trivial(), a.Rules()...)
	wantChain(t, pathmap.Trivial(), a, a.Rules()...)
}

// holdFolders: P14.7, what lies in what, and what Below says of a folder's paths.
func holdFolders(t *testing.T, m *pathmap.Map, paths []string) {
	t.Helper()
	for _, path := range paths {
		image, err := m.Image(path)
		folder, last, top := name.Dir(path)
		if top != api.OK {
			continue
		}
		above, other := m.Image(folder)
		if err == api.OK && other == api.OK && image != strings.TrimPrefix(above+"/"+last, "/") {
			t.Errorf("%q goes to %q, its folder to %q, by %s", path, image, above, told(m.Rules()))
		}
		one, _ := m.Rule(path)
		two, _ := m.Rule(folder)
		ruled := slices.ContainsFunc(m.Below(folder), func(r api.Rule) bool { return name.In(path, r.From) })
		if one != two && !ruled {
			t.Errorf("%q has another rule than its folder, by %s", path, told(m.Rules()))
		}
	}
}

// P14.7: of all pairs of paths that have images, these lie in each other just as the paths do.
func TestImagesLieAlike(t *testing.T) {
	r := rand.New(rand.NewSource(147))
	paths := rowsOf(3, "a", "b", "ab")
	for range 300 {
		m := mapOf(t, randomSet(r, 3, "a", "b", "ab")...)
		for _, p := range paths {
			for _, q := range paths {
				one, err := m.Image(p)
				two, other := m.Image(q)
				if err == api.OK && other == api.OK && name.In(p, q) != name.In(one, two) {
					t.Errorf("%q and %q, and their images %q and %q, by %s", p, q, one, two, told(m.Rules()))
				}
			}
		}
	}
}

// P14.3: paths around the limits, held against the model.
func TestLongPathsByModel(t *testing.T) {
	r := rand.New(rand.NewSource(143))
	long := []string{"a", "a", letters(20), letters(32), "é"}
	for range 1500 {
		var set []api.Rule
		for _, rule := range randomSet(r, 14, long...) {
			if isPath(rule.From) && isPath(rule.To) {
				set = append(set, rule)
			}
		}
		var paths []string
		for _, rule := range set {
			for _, front := range []string{rule.From, rule.To} {
				row := strings.Trim(front+"/"+randomRow(r, 6, long...), "/")
				if isPath(row) {
					paths = append(paths, row)
				}
			}
		}
		holdMap(t, set, paths)
	}
}

// P14.1: lists of many rules, wrong at places all over, held against the model.
func TestManyFaults(t *testing.T) {
	r := rand.New(rand.NewSource(141))
	places := map[api.Fault]int{}
	for range 4000 {
		var l []api.Rule
		for k := range r.Intn(api.MaxRules) {
			from := fmt.Sprintf("%d/%s", k, randomRow(r, 2, "a", "b"))
			if r.Intn(100) == 0 {
				from = fmt.Sprintf("%d/a", r.Intn(k+1))
			}
			from = strings.TrimSuffix(from, "/")
			l = append(l, list(keep(from), drop(from), move(from, "x"+from))[r.Intn(3)])
		}
		fault := faultOf(l)
		places[fault]++
		holdMap(t, l, nil)
	}
	if len(places) < 40 {
		t.Errorf("%d unlike faults", len(places))
	}
}
