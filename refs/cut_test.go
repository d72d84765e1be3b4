package refs_test

import (
	"math/rand"
	"slices"
	"strings"
	"testing"

	"espalier/api"
	"espalier/disk"
	"espalier/name"
	"espalier/refs"
)

// model is refs as the chapter's words say, in a list that nobody sorts but who asks.
type model struct {
	list []api.Ref
	cut  bool // a Set was cut
}

func (m *model) place(name string) int {
	return slices.IndexFunc(m.list, func(one api.Ref) bool { return one.Name == name })
}

// wrong is P8.2's errors ahead of what is written.
func (m *model) wrong(l []api.Ref) api.Errno {
	after := model{list: slices.Clone(m.list)}
	for k, change := range l {
		if err := name.Path(change.Name).Err; err != api.OK {
			return err
		}
		if change.Name == "" {
			return api.ErrArg
		}
		for _, other := range l[:k] {
			if other.Name == change.Name {
				return api.ErrThere
			}
		}
		if change.Id == 0 && m.place(change.Name) < 0 {
			return api.ErrNone
		}
		after.say(change)
	}
	if len(after.list) > 64 {
		return api.ErrLong
	}
	return api.OK
}

func (m *model) say(change api.Ref) {
	if k := m.place(change.Name); k >= 0 {
		m.list = slices.Delete(m.list, k, k+1)
	}
	if change.Id != 0 {
		m.list = append(m.list, change)
	}
}

// set is P8.2, on a disk that does all raw writes; and the record that is written, if one is.
func (m *model) set(l []api.Ref) (api.Errno, []byte) {
	if err := m.wrong(l); err != api.OK {
		return err, nil
	}
	var left []api.Ref
	for _, change := range l {
		if !slices.Contains(m.list, change) {
			left = append(left, change)
		}
	}
	if len(left) == 0 {
		return api.OK, nil
	}
	if m.cut {
		return api.ErrCut, nil
	}
	for _, change := range left {
		m.say(change)
	}
	return api.OK, row(left...)
}

// under is P8.3's refs in a path, by another reckoning than package name's.
func (m *model) under(path string) []api.Ref {
	var l []api.Ref
	for _, one := range m.list {
		if path == "" || strings.HasPrefix(one.Name+"/", path+"/") {
			l = append(l, one)
		}
	}
	slices.SortFunc(l, func(a, b api.Ref) int { return strings.Compare(a.Name, b.Name) })
	return l
}

func (m *model) want(t *testing.T, r *refs.Refs) {
	t.Helper()
	wantRefs(t, r, m.under("")...)
	for _, one := range names() {
		if m.place(one) < 0 {
			wantNone(t, r, api.ErrNone, one)
		}
		wantUnder(t, r, one, m.under(one)...)
	}
}

// names is names of refs, some within others, some that begin alike.
func names() []string {
	return []string{"a", "b", "ab", "a/b", "a.b", "a/b/c", "a b", "é", strings.Repeat("long/", 15) + "long", strings.Repeat("x", 32)}
}

// someChanges is changes of which most may be made.
func someChanges(r *rand.Rand) []api.Ref {
	var l []api.Ref
	known := names()
	for range r.Intn(5) {
		l = append(l, ref(known[r.Intn(len(known))], api.Id(r.Intn(3))))
	}
	switch r.Intn(40) {
	case 0:
		l = append(l, ref("", 1))
	case 1:
		l = slices.Insert(l, 0, ref("a/", 1))
	case 2:
		l = append(l, many("m", 60, 1)...)
	case 3:
		l = append(l, many("m", 60, 0)...)
	}
	return l
}

// P8.1 to P8.4: refs by the model, opened again at times.
func TestByModel(t *testing.T) {
	for seed := range int64(400) {
		r := rand.New(rand.NewSource(seed))
		d := disk.New()
		some := open(t, d)
		var m model
		var file [][]byte
		for range 40 {
			l := someChanges(r)
			before := d.Writes()
			asked, record := m.set(l)
			if err := some.Set(l...); err != asked {
				t.Fatalf("seed %d: Set(%v) of %v: %d, not %d", seed, l, m.list, err, asked)
			}
			if record != nil {
				file = append(file, record)
			}
			if (d.Writes() == before) != (record == nil) {
				t.Fatalf("seed %d: Set(%v): %d raw writes", seed, l, d.Writes()-before)
			}
			if r.Intn(5) == 0 {
				some = open(t, d)
			}
		}
		m.want(t, some)
		m.want(t, open(t, d.Copy()))
		wantFile(t, d, file...)
		if t.Failed() {
			t.Fatalf("seed %d", seed)
		}
	}
}

// setSome sets as the model does; what is cut is noted in it, and what was written is answered.
func setSome(t *testing.T, some *refs.Refs, m *model, rows [][]api.Ref) [][]byte {
	t.Helper()
	var file [][]byte
	for _, l := range rows {
		err := some.Set(l...)
		if err == api.ErrCut {
			m.cut = true
		}
		asked, record := m.set(l)
		if err != asked {
			t.Fatalf("Set(%v) of %v: %d, not %d", l, m.list, err, asked)
		}
		if record != nil {
			file = append(file, record)
		}
	}
	return file
}

func someRows(r *rand.Rand) [][]api.Ref {
	rows := make([][]api.Ref, 8)
	for k := range rows {
		rows[k] = someChanges(r)
	}
	return rows
}

// P8.4: cut at each raw write, mended, opened, gone on, and cut once more: never a part of a Set.
func TestCutEverywhere(t *testing.T) {
	for seed := range int64(25) {
		r := rand.New(rand.NewSource(seed))
		rows, more := someRows(r), someRows(r)
		whole := disk.New()
		setSome(t, open(t, whole), &model{}, rows)
		for cut := range whole.Writes() + 1 {
			d := disk.New()
			some := open(t, d)
			var m model
			d.Cut(cut)
			file := setSome(t, some, &m, rows)
			if m.cut != (cut < whole.Writes()) {
				t.Fatalf("seed %d, cut behind %d: %t", seed, cut, m.cut)
			}
			m.want(t, some)
			d.Mend()
			goOn(t, d, &m, file, more, r.Intn(20))
			if t.Failed() {
				t.Fatalf("seed %d, cut behind %d", seed, cut)
			}
		}
	}
}

// goOn opens a mended disk with the model's refs, and sets more, cut behind so many raw writes.
func goOn(t *testing.T, d *disk.Disk, m *model, file [][]byte, more [][]api.Ref, cut int) {
	t.Helper()
	m.cut = false
	some := open(t, d)
	m.want(t, some)
	wantFile(t, d, file...)
	d.Cut(cut)
	file = append(file, setSome(t, some, m, more)...)
	d.Mend()
	m.want(t, open(t, d))
	before := d.Writes()
	m.want(t, open(t, d))
	wantWrites(t, d, before)
	wantFile(t, d, file...)
}

// P8.2, P8.4: refs whose Set was cut take no more, when the disk is mended neither, and tell what they had.
func TestCutSticks(t *testing.T) {
	d := disk.New()
	r := open(t, d)
	set(t, r, ref("a", 1), ref("b", 2))
	d.Cut(1)
	wantSet(t, "three, cut", r, api.ErrCut, ref("a", 0), ref(strings.Repeat("x", 32), 1), ref("b", 3))
	d.Mend()
	before := d.Writes()
	wantSet(t, "a short one", r, api.ErrCut, ref("c", 1))
	wantSet(t, "one away", r, api.ErrCut, ref("a", 0))
	wantSet(t, "a wrong one", r, api.ErrNone, ref("c", 0))
	wantSet(t, "too many", r, api.ErrLong, many("m", 63, 1)...)
	set(t, r, ref("a", 1))
	wantWrites(t, d, before)
	wantRefs(t, r, ref("a", 1), ref("b", 2))

	r = open(t, d)
	wantRefs(t, r, ref("a", 1), ref("b", 2))
	set(t, r, ref("a", 0), ref("b", 3))
	wantRefs(t, open(t, d), ref("b", 3))
}

// P8.4: cut within a Set, at each of its raw writes, all of its changes are there, or none.
func TestCutWholeOrNot(t *testing.T) {
	for cut := range 200 {
		d := disk.New()
		r := open(t, d)
		set(t, r, many("a", 40, 1)...)
		d.Cut(cut)
		err := r.Set(slices.Concat(many("b", 30, 2), many("a", 20, 0))...)
		d.Mend()
		switch err {
		case api.ErrCut:
			wantRefs(t, open(t, d), many("a", 40, 1)...)
		case api.OK:
			wantRefs(t, open(t, d), slices.Concat(many("a", 40, 1)[20:], many("b", 30, 2))...)
			if cut == 0 {
				t.Error("nothing was cut")
			}
			return
		default:
			t.Fatalf("error %d", err)
		}
	}
	t.Error("cut at all places")
}
