package memo

import (
	"cmp"
	"slices"

	"espalier/api"
	"espalier/run"
)

// readRuns finds the memo's pairs; it tells whether all runs that count are there and right.
func (m *Memo) readRuns() bool {
	for _, n := range m.runs {
		b, _ := m.disk.Read(fileName(m.key, n)) // of none there are no bytes, which are no run's either
		count, err := run.Check(b)
		if err != api.OK {
			return false
		}
		news, err := m.news(b)
		if err != api.OK || len(news) != count {
			return false
		}
		m.pairs = join(m.pairs, news)
	}
	return true
}

// news is those of a run's pairs that the memo does not have, by rising From.
func (m *Memo) news(b []byte) ([]api.Pair, api.Errno) {
	var l []api.Pair
	for p := range run.Each(b) {
		switch to, known := m.Standin(p.From); {
		case !known:
			l = append(l, p)
		case to != p.To:
			return nil, api.ErrThere
		}
	}
	return l, api.OK
}

// find is the place of the pair of that From among pairs by rising From, or that where it would be put.
func find(l []api.Pair, from api.Id) (int, bool) {
	return slices.BinarySearchFunc(l, from, func(p api.Pair, from api.Id) int { return cmp.Compare(p.From, from) })
}

// join is two lists by rising From, of which no From is in both, as a new one of that kind.
func join(old, news []api.Pair) []api.Pair {
	all := make([]api.Pair, 0, len(old)+len(news))
	for _, p := range news {
		at, _ := find(old, p.From)
		all = append(append(all, old[:at]...), p)
		old = old[at:]
	}
	return append(all, old...)
}

// lay writes pairs that are new, and has them from the record on that says so.
func (m *Memo) lay(news []api.Pair) api.Errno {
	all := join(m.pairs, news)
	written, stay := news, len(m.runs)
	if stay == api.MaxRuns {
		written, stay = all, 0
	}
	number := m.top + 1
	b, err := run.Make(written)
	if err != api.OK {
		return err
	}
	if err := m.disk.Append(fileName(m.key, number), b); err != api.OK {
		return err
	}
	runs, gone := append([]int{number}, m.runs[:stay]...), m.runs[stay:]
	if err := m.journal.Append(encode(runs...)); err != api.OK {
		return err
	}
	m.runs, m.top, m.pairs = runs, number, all
	return m.remove(gone)
}

// left is the numbers of the run files that do not count.
func (m *Memo) left() []int {
	var numbers []int
	for _, name := range m.disk.Names() {
		key, number := whose(name)
		if key == m.key && number > 0 && !slices.Contains(m.runs, number) {
			numbers = append(numbers, number)
		}
	}
	return numbers
}

// remove takes the run files of these numbers away, by rising number.
func (m *Memo) remove(numbers []int) api.Errno {
	slices.SortFunc(numbers, func(one, other int) int { return cmp.Compare(one, other) })
	for _, n := range numbers {
		if err := m.disk.Remove(fileName(m.key, n)); err != api.OK {
			return err
		}
	}
	return api.OK
}
