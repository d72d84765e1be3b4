package pathmap

import (
	"maps"
	"slices"

	"espalier/api"
	"espalier/name"
)

// table is rules by their Froms, which are rows of names.
type table map[string]api.Rule

func tableOf(rules []api.Rule) table {
	t := table{}
	for _, r := range rules {
		t[r.From] = r
	}
	return t
}

// rule is the rule of a row; the zero rule, which is none, if there is no such rule.
func (t table) rule(row string) api.Rule {
	if r, there := t[row]; there {
		return r
	}
	return t.upper(row)
}

// upper is what the rule of a row would be without one of just that row.
func (t table) upper(row string) api.Rule {
	var last api.Rule
	for begin := range beginnings(row) {
		if r, there := t[begin]; there {
			last = r
		}
	}
	return last
}

// oneForm is the one form of a set of rules that agree: those that say otherwise than their upper rules. Where there is none nothing is let through, as by a DropRule.
func (t table) oneForm() []api.Rule {
	stays := func(r api.Rule) bool {
		return lets(r) != lets(t.upper(r.From))
	}
	var form []api.Rule
	for _, from := range slices.SortedFunc(maps.Keys(t), name.Compare) {
		if r := t[from]; stays(r) {
			form = append(form, plain(r))
		}
	}
	return form
}

func keep(from string) api.Rule     { return api.Rule{Kind: api.KeepRule, From: from} }
func drop(from string) api.Rule     { return api.Rule{Kind: api.DropRule, From: from} }
func move(from, to string) api.Rule { return api.Rule{Kind: api.MoveRule, From: from, To: to} }

// plain has a rule that moves nothing stand as one that keeps.
func plain(r api.Rule) api.Rule {
	if r == move(r.From, r.From) {
		return keep(r.From)
	}
	return r
}

// lets says whether a rule lets rows through; the zero rule lets none.
func lets(r api.Rule) bool {
	return r.Kind == api.KeepRule || r.Kind == api.MoveRule
}

// target is To of a rule that lets rows through, as this layer takes it.
func target(r api.Rule) string {
	if r.Kind == api.KeepRule {
		return r.From
	}
	return r.To
}

// moved is where a rule that lets rows through brings a row that lies in its From.
func moved(r api.Rule, row string) string {
	left, _ := rest(row, r.From)
	return join(target(r), left)
}
