package change_test

import (
	"maps"
	"math/rand"
	"slices"
	"strings"
	"testing"

	"espalier/api"
	"espalier/change"
	"espalier/name"
	"espalier/store"
	"espalier/tree"
)

// files is a tree as the model has it: its files by their paths.
type files map[string]api.Id

// liesIn says whether a path other than the root lies in another one.
func liesIn(path, within string) bool {
	return path == within || strings.HasPrefix(path, within+"/")
}

// byNames is the order of paths, by their names.
func byNames(a, b string) int {
	return slices.Compare(strings.Split(a, "/"), strings.Split(b, "/"))
}

// clashes says whether a path of files lies in another one.
func (f files) clashes() bool {
	for a := range f {
		for b := range f {
			if a != b && liesIn(a, b) {
				return true
			}
		}
	}
	return false
}

// inner is the files in the folder of that name.
func (f files) inner(part string) files {
	in := files{}
	for path, id := range f {
		if rest, ok := strings.CutPrefix(path, part+"/"); ok {
			in[rest] = id
		}
	}
	return in
}

// id is that of the tree of the files.
func (f files) id(t *testing.T, s *store.Store) api.Id {
	t.Helper()
	var list []api.File
	for path, id := range f {
		list = append(list, api.File{Path: path, Blob: id})
	}
	id, err := tree.Of(s, list)
	if err != api.OK {
		t.Fatalf("Of(%v): %d", f, err)
	}
	return id
}

// modelBetween is the changes between files.
func modelBetween(a, b files) []api.Change {
	all := maps.Clone(a)
	maps.Copy(all, b)
	var l []api.Change
	for _, path := range slices.SortedFunc(maps.Keys(all), byNames) {
		if a[path] != b[path] {
			l = append(l, api.Change{Path: path, Was: a[path], Now: b[path]})
		}
	}
	return l
}

// modelRead is how many trees of two sides are read; a side without files has no folder there, but at the root.
func modelRead(a, b files, root bool) int {
	count := 2
	switch {
	case maps.Equal(a, b):
		return 0
	case !root && (len(a) == 0 || len(b) == 0):
		count = 1
	}
	parts := map[string]int{}
	for _, side := range []files{a, b} {
		for path := range side {
			if part, _, ok := strings.Cut(path, "/"); ok {
				parts[part]++
			}
		}
	}
	for part := range parts {
		count += modelRead(a.inner(part), b.inner(part), false)
	}
	return count
}

// modelCheck is P10.2's answer, each change held against all ahead.
func modelCheck(l []api.Change) api.Fault {
	for i, c := range l {
		if c.Path == "" || name.Path(c.Path).Err != api.OK || c.Was == c.Now {
			return api.Fault{Err: api.ErrArg, At: i}
		}
		if i > 0 && byNames(l[i-1].Path, c.Path) >= 0 {
			return api.Fault{Err: api.ErrArg, At: i}
		}
		for _, o := range l[:i] {
			if liesIn(c.Path, o.Path) && !(o.Was == 0 && c.Now == 0) && !(o.Now == 0 && c.Was == 0) {
				return api.Fault{Err: api.ErrClash, At: i}
			}
		}
	}
	return api.Fault{}
}

// modelApply is the files that come, of blobs that are all there.
func modelApply(f files, l []api.Change) (files, api.Errno) {
	if fault := modelCheck(l); fault.Err != api.OK {
		return nil, fault.Err
	}
	out := maps.Clone(f)
	for _, c := range l {
		if f[c.Path] != c.Was {
			return nil, api.ErrStale
		}
		if out[c.Path] = c.Now; c.Now == 0 {
			delete(out, c.Path)
		}
	}
	if out.clashes() {
		return nil, api.ErrClash
	}
	return out, api.OK
}

// modelJoin is P10.4's answer, of lists that may be.
func modelJoin(l, m []api.Change) ([]api.Change, api.Fault) {
	byPath := map[string]api.Change{}
	for _, c := range l {
		byPath[c.Path] = c
	}
	for i, c := range m {
		if one, ok := byPath[c.Path]; ok {
			if one.Now != c.Was {
				return nil, api.Fault{Err: api.ErrStale, At: i}
			}
			c.Was = one.Was
		}
		byPath[c.Path] = c
	}
	var out []api.Change
	for _, path := range slices.SortedFunc(maps.Keys(byPath), byNames) {
		if c := byPath[path]; c.Was != c.Now {
			out = append(out, c)
		}
	}
	if f := modelCheck(out); f != (api.Fault{}) {
		return nil, f
	}
	return out, api.Fault{}
}

// anyPath is one of few paths, so that they often meet.
func anyPath(r *rand.Rand) string {
	parts := []string{"a", "b", "a.", "a!"}
	path := parts[r.Intn(len(parts))]
	for r.Intn(2) == 0 && len(path) < 8 {
		path += "/" + parts[r.Intn(len(parts))]
	}
	return path
}

func anyBlob(r *rand.Rand) api.Id {
	return digit(string(rune('1' + r.Intn(3))))
}

// anyFiles is files that can stand in one tree.
func anyFiles(r *rand.Rand) files {
	f := files{}
	for range r.Intn(9) {
		path := anyPath(r)
		old, there := f[path]
		f[path] = anyBlob(r)
		if f.clashes() {
			delete(f, path)
			if there {
				f[path] = old
			}
		}
	}
	return f
}

// anyList is changes that are near to what may be laid on files.
func anyList(r *rand.Rand, f files) []api.Change {
	var l []api.Change
	paths := slices.Sorted(maps.Keys(f))
	for range r.Intn(5) {
		c := api.Change{Path: anyPath(r)}
		if len(paths) > 0 && r.Intn(2) == 0 {
			c.Path = paths[r.Intn(len(paths))]
		}
		if c.Was = f[c.Path]; r.Intn(9) == 0 {
			c.Was = anyBlob(r)
		}
		if r.Intn(3) > 0 {
			c.Now = anyBlob(r)
		}
		if c.Was != c.Now || r.Intn(9) == 0 {
			l = append(l, c)
		}
	}
	if r.Intn(20) > 0 {
		slices.SortStableFunc(l, func(a, b api.Change) int { return byNames(a.Path, b.Path) })
	}
	if r.Intn(20) > 0 {
		l = slices.CompactFunc(l, func(a, b api.Change) bool { return a.Path == b.Path })
	}
	return l
}

// P10.1, P10.5: changes between trees, laid on them, turned about and joined.
func TestModelBetween(t *testing.T) {
	r := rand.New(rand.NewSource(10))
	s, _ := open(t)
	keepDigits(t, s)
	for range 1500 {
		f, g, h := anyFiles(r), anyFiles(r), anyFiles(r)
		a, b, c := f.id(t, s), g.id(t, s), h.id(t, s)
		there, back := modelBetween(f, g), modelBetween(g, f)
		wantBetween(t, s, a, b, there)
		wantBetween(t, s, b, a, back)
		wantBetween(t, s, a, a, nil)
		wantRead(t, s, a, b, modelRead(f, g, true))
		wantRead(t, s, a, a, 0)
		wantFault(t, there, api.OK, 0)
		wantTurned(t, there, back)
		wantApplied(t, s, a, there, b)
		wantApplied(t, s, b, back, a)
		wantJoined(t, there, modelBetween(g, h), modelBetween(f, h))
		wantJoined(t, there, back, nil)
		wantApplied(t, s, a, modelBetween(f, h), c)
		if t.Failed() {
			t.Fatalf("of %v, %v, %v", f, g, h)
		}
	}
}

// P10.2 to P10.4: lists that may be, and those that may not.
func TestModelLists(t *testing.T) {
	r := rand.New(rand.NewSource(20))
	s, _ := open(t)
	keepDigits(t, s)
	kinds := map[api.Errno]int{}
	for range 6000 {
		f := anyFiles(r)
		l, m := anyList(r, f), anyList(r, f)
		fault := modelCheck(l)
		wantFault(t, l, fault.Err, fault.At)
		g, err := modelApply(f, l)
		kinds[err]++
		if id := f.id(t, s); err != api.OK {
			wantNotApplied(t, s, id, l, err)
		} else {
			wantApplied(t, s, id, l, g.id(t, s))
			wantBetween(t, s, id, g.id(t, s), l)
			m = anyList(r, g)
		}
		if fault.Err == api.OK && modelCheck(m).Err == api.OK {
			wantModelJoin(t, l, m)
			wantWithinModel(t, l, anyPath(r))
		}
		if t.Failed() {
			t.Fatalf("of %v, %v, %v", f, l, m)
		}
	}
	for _, err := range []api.Errno{api.OK, api.ErrArg, api.ErrStale, api.ErrClash} {
		if kinds[err] < 100 {
			t.Errorf("%d was asked %d times", err, kinds[err])
		}
	}
}

func wantModelJoin(t *testing.T, l, m []api.Change) {
	t.Helper()
	if asked, f := modelJoin(l, m); f != (api.Fault{}) {
		wantNotJoined(t, l, m, f.Err, f.At)
	} else {
		wantJoined(t, l, m, asked)
	}
}

func wantWithinModel(t *testing.T, l []api.Change, path string) {
	t.Helper()
	var asked []api.Change
	for _, c := range l {
		if liesIn(c.Path, path) {
			asked = append(asked, c)
		}
	}
	wantWithin(t, l, path, asked)
}

// P10.5: two trees of one store whose files are the same are one, and have no changes between them.
func TestSameFiles(t *testing.T) {
	s, _ := open(t)
	one := made(t, s, "a/b", "1", "c", "2")
	two, err := tree.Put(s, made(t, s, "c", "2"), "a/b", []byte("1"))
	if err != api.OK || two != one {
		t.Fatalf("Put: %x %d", two, err)
	}
	wantBetween(t, s, one, two, nil)
	wantRead(t, s, one, two, 0)
	if l, f := change.Turn(nil); l != nil || f != (api.Fault{}) {
		t.Errorf("Turn: %v %v", l, f)
	}
}
