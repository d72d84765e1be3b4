package project_test

import (
	"cmp"
	"maps"
	"math/rand"
	"slices"
	"strings"
	"testing"

	"espalier/api"
	"espalier/name"
	"espalier/pathmap"
	"espalier/project"
	"espalier/store"
	"espalier/tree"
)

// rules is a set of rules as they were handed in; what follows is the chapters' words of rows of names, written again.
type rules []api.Rule

func names(row string) []string {
	if row == "" {
		return nil
	}
	return strings.Split(row, "/")
}

// restIn is the names of a row behind those of another one, and whether it lies in that.
func restIn(row, within string) ([]string, bool) {
	a, b := names(row), names(within)
	if len(a) < len(b) || !slices.Equal(a[:len(b)], b) {
		return nil, false
	}
	return a[len(b):], true
}

func behind(row string, rest []string) string {
	return strings.Join(append(names(row), rest...), "/")
}

func tooLong(row string) bool { return len(names(row)) > 16 || len(row) > 200 }

func toOf(r api.Rule) string {
	if r.Kind == api.KeepRule {
		return r.From
	}
	return r.To
}

// image is that of a row, however long, and whether it has one.
func (l rules) image(row string) (string, bool) {
	var found api.Rule
	for _, r := range l {
		if _, lies := restIn(row, r.From); lies && (found.Kind == 0 || len(names(r.From)) > len(names(found.From))) {
			found = r
		}
	}
	if found.Kind == 0 || found.Kind == api.DropRule {
		return "", false
	}
	rest, _ := restIn(row, found.From)
	return behind(toOf(found), rest), true
}

// source is the row of which another one is the image, and whether there is one.
func (l rules) source(image string) (string, bool) {
	for _, r := range l {
		if rest, lies := restIn(image, toOf(r)); lies && r.Kind != api.DropRule {
			row := behind(r.From, rest)
			if back, has := l.image(row); has && back == image {
				return row, true
			}
		}
	}
	return "", false
}

// files is a tree as the model has it: its files by their paths.
type files map[string]api.Id

func sortedPaths[V any](m map[string]V) []string {
	return slices.SortedFunc(maps.Keys(m), func(a, b string) int { return slices.Compare(names(a), names(b)) })
}

// clashes says whether a path of files lies in another one.
func (f files) clashes() bool {
	for a := range f {
		for b := range f {
			if _, lies := restIn(a, b); lies && a != b {
				return true
			}
		}
	}
	return false
}

// id is that of the tree of the files, worked out without a store.
func (f files) id() api.Id {
	var entries []api.Entry
	within := map[string]files{}
	for path, id := range f {
		first, rest, deeper := strings.Cut(path, "/")
		if !deeper {
			entries = append(entries, file(first, id))
			continue
		}
		if within[first] == nil {
			within[first] = files{}
		}
		within[first][rest] = id
	}
	for first, inner := range within {
		entries = append(entries, folder(first, inner.id()))
	}
	slices.SortFunc(entries, func(a, b api.Entry) int { return cmp.Compare(a.Name, b.Name) })
	return idOf(api.Tree{Entries: entries})
}

// in puts the tree of the files into a store.
func (f files) in(t *testing.T, s *store.Store) api.Id {
	t.Helper()
	var list []api.File
	for path, id := range f {
		list = append(list, api.File{Path: path, Blob: id})
	}
	id, err := tree.Of(s, list)
	if err != api.OK {
		t.Fatalf("Of(%v): %d", f, err)
	}
	return id
}

// of is P15.1's answer; the rows of its files may be too long.
func (l rules) of(f files) (files, api.Errno) {
	out, err := files{}, api.OK
	for path, id := range f {
		image, has := l.image(path)
		if !has {
			continue
		}
		out[image] = id
		if tooLong(image) {
			err = api.ErrLong
		} else if image == "" && err == api.OK {
			err = api.ErrClash
		}
	}
	return out, err
}

func (l rules) outside(f files) files {
	out := files{}
	for path, id := range f {
		if _, has := l.image(path); !has {
			out[path] = id
		}
	}
	return out
}

// inside is P15.3's answer.
func (l rules) inside(f files) bool {
	for path := range f {
		if _, has := l.source(path); !has {
			return false
		}
	}
	return true
}

// back is P15.2's answer, but for what has too many entries.
func (l rules) back(base, f files) (files, api.Errno) {
	if !l.inside(f) {
		return nil, api.ErrImage
	}
	out, long := l.outside(base), false
	for path, id := range f {
		source, _ := l.source(path)
		long = long || tooLong(source)
		out[source] = id
	}
	_, root := out[""]
	switch {
	case long:
		return nil, api.ErrLong
	case root, out.clashes():
		return nil, api.ErrClash
	}
	return out, api.OK
}

// pairs is P15.3's answer.
func (l rules) pairs(f files) []string {
	var told []string
	for _, path := range sortedPaths(f) {
		if image, has := l.image(path); has && !tooLong(image) {
			told = append(told, path, image)
		}
	}
	return told
}

// alike is P15.3's answer.
func (l rules) alike(a, b files) bool {
	left := func(f files) files {
		out := files{}
		for path, id := range f {
			if _, has := l.image(path); has {
				out[path] = id
			}
		}
		return out
	}
	return maps.Equal(left(a), left(b))
}

// wantModel wants a call to answer the tree of the model's files, or its error.
func wantModel(t *testing.T, what string, asked files, askedErr api.Errno) func(id api.Id, err api.Errno) {
	t.Helper()
	if askedErr != api.OK {
		return wantErr(t, what, askedErr)
	}
	return want(t, what, asked.id())
}

// trial is a set of rules and two trees of a store.
type trial struct {
	s    *store.Store
	l    rules
	m    *pathmap.Map
	f, g files
	a, b api.Id
}

// wantCase holds all calls against the model.
func wantCase(t *testing.T, c trial) {
	t.Helper()
	before := c.s.Len()
	wantSaid(t, "Inside", c.l.inside(c.f))(project.Inside(c.s, c.m, c.a))
	wantSaid(t, "Alike", c.l.alike(c.f, c.g))(project.Alike(c.s, c.m, c.a, c.b))
	wantPairs(t, c.s, c.m, c.a, c.l.pairs(c.f)...)
	wantSince(t, "nothing is put in", c.s, before)
	of, ofErr := c.l.of(c.f)
	wantModel(t, "Of", of, ofErr)(project.Of(c.s, c.m, c.a))
	want(t, "Outside", c.l.outside(c.f).id())(project.Outside(c.s, c.m, c.a))
	back, backErr := c.l.back(c.f, c.g)
	wantModel(t, "Back", back, backErr)(project.Back(c.s, c.m, c.a, c.b))
	wantThereAndBack(t, c)
	wantShared(t, c)
	if t.Failed() {
		t.Fatalf("by %+v, of %q and %q", c.l, sortedPaths(c.f), sortedPaths(c.g))
	}
}

// wantThereAndBack holds P15.4.
func wantThereAndBack(t *testing.T, c trial) {
	t.Helper()
	out, _ := project.Outside(c.s, c.m, c.a)
	want(t, "Outside of Outside", out)(project.Outside(c.s, c.m, out))
	want(t, "Of of Outside", emptyId())(project.Of(c.s, c.m, out))
	if of, err := project.Of(c.s, c.m, c.a); err == api.OK {
		want(t, "Back of Of", c.a)(project.Back(c.s, c.m, c.a, of))
		want(t, "Back of Of and Outside", c.a)(project.Back(c.s, c.m, out, of))
		wantSaid(t, "Inside of Of", true)(project.Inside(c.s, c.m, of))
	}
	if back, err := project.Back(c.s, c.m, c.a, c.b); err == api.OK {
		want(t, "Of of Back", c.b)(project.Of(c.s, c.m, back))
		want(t, "Outside of Back", out)(project.Outside(c.s, c.m, back))
		wantSaid(t, "Alike of Back", c.l.alike(c.f, filesOf(t, c.s, back)))(project.Alike(c.s, c.m, c.a, back))
	}
}

func filesOf(t *testing.T, s *store.Store, id api.Id) files {
	t.Helper()
	f := files{}
	for path, id := range tree.Walk(s, id) {
		f[path] = id
	}
	return f
}

// wantShared holds P15.5 of each folder.
func wantShared(t *testing.T, c trial) {
	t.Helper()
	of, err := project.Of(c.s, c.m, c.a)
	if err != api.OK {
		return
	}
	for path := range c.f {
		for path != "" {
			path, _, _ = name.Dir(path)
			image, has := c.l.image(path)
			inner := slices.ContainsFunc(c.m.Rules(), func(r api.Rule) bool { return r.From != path && name.In(r.From, path) })
			if !has || inner {
				continue
			}
			was, _ := tree.Find(c.s, c.a, path)
			if e, err := tree.Find(c.s, of, image); err != api.OK || !e.Folder || e.Id != was.Id {
				t.Errorf("%q at %q: %v %d, not %x", path, image, e, err, was.Id)
			}
		}
	}
}

// smallTrees is all trees of the files a, b, or in folders of these names a and b, of two blobs at one of them.
func smallTrees(one, two api.Id) []files {
	var sides [2][]files
	for k, part := range []string{"a", "b"} {
		sides[k] = []files{{}, {part: one}, {part + "/a": one}, {part + "/b": one}, {part + "/a": one, part + "/b": one}, {part + "/a/a": one}}
	}
	sides[0] = append(sides[0], files{"a": two}, files{"a/a": two}, files{"a/a": one, "a/b": two})
	var all []files
	for _, a := range sides[0] {
		for _, b := range sides[1] {
			f := maps.Clone(a)
			maps.Copy(f, b)
			all = append(all, f)
		}
	}
	return all
}

// smallRules is all sets of up to two rules of few paths, and some of three.
func smallRules() []rules {
	var single []api.Rule
	for _, from := range []string{"", "a", "b", "a/a", "a/a/a"} {
		single = append(single, keep(from), drop(from))
		for _, to := range []string{"", "a", "b", "a/b", "b/a/a"} {
			single = append(single, move(from, to))
		}
	}
	all := []rules{nil}
	for i, r := range single {
		all = append(all, rules{r})
		for j, q := range single[:i] {
			all = append(all, rules{r, q})
			if i%5 == 0 && j%3 == 0 {
				for _, p := range single[:j] {
					all = append(all, rules{p, r, q})
				}
			}
		}
	}
	return slices.DeleteFunc(all, func(l rules) bool { _, fault := pathmap.New(l); return fault.Err != api.OK })
}

// P15.1 to P15.5: all small trees by all small sets of rules.
func TestSmallByModel(t *testing.T) {
	s, _ := open(t)
	trees := smallTrees(putBlob(t, s, "1"), putBlob(t, s, "2"))
	var ids []api.Id
	for _, f := range trees {
		ids = append(ids, f.in(t, s))
	}
	for k, l := range smallRules() {
		m := mapOf(t, l...)
		for i := range trees {
			j := (i*7 + k) % len(trees)
			wantCase(t, trial{s: s, l: l, m: m, f: trees[i], g: trees[j], a: ids[i], b: ids[j]})
		}
	}
}

// long is names by which paths soon have too many bytes.
var long = []string{strings.Repeat("l", 32), strings.Repeat("m", 30)}

func someNames(r *rand.Rand, most int) []string {
	parts := []string{"a", "b", "c"}
	if r.Intn(5) == 0 {
		parts = append(parts, long...)
	}
	var out []string
	for range r.Intn(most + 1) {
		out = append(out, parts[r.Intn(len(parts))])
	}
	return out
}

// somePath is a path, most often one that lies in one of those.
func somePath(r *rand.Rand, within []string) string {
	for {
		row := ""
		if len(within) > 0 && r.Intn(4) > 0 {
			row = within[r.Intn(len(within))]
		}
		most := 3
		if r.Intn(8) == 0 {
			most = 16
		}
		if row = behind(row, someNames(r, most)); !tooLong(row) {
			return row
		}
	}
}

// someRules is a set of rules that may be, some of them below others.
func someRules(r *rand.Rand) rules {
	var l rules
	var froms []string
	for range 1 + r.Intn(12) {
		rule := api.Rule{Kind: 1 + r.Intn(3), From: somePath(r, froms)}
		if rule.Kind == api.MoveRule {
			rule.To = somePath(r, nil)
			for _, upper := range l { // what is below a rule has its own place there
				if rest, lies := restIn(rule.From, upper.From); lies && upper.Kind != api.DropRule && r.Intn(4) > 0 {
					rule.To = behind(toOf(upper), rest)
				}
			}
		}
		if _, fault := pathmap.New(append(l[:len(l):len(l)], rule)); fault.Err == api.OK {
			l = append(l, rule)
			froms = append(froms, rule.From)
		}
	}
	return l
}

func someFiles(r *rand.Rand, within []string, blobs []api.Id) files {
	f := files{}
	for range r.Intn(8) {
		path := somePath(r, within)
		if path == "" {
			continue
		}
		if f[path] = blobs[r.Intn(len(blobs))]; f.clashes() {
			delete(f, path)
		}
	}
	return f
}

// someSide is files that may well be images: those of others, or ones near the rules' images.
func someSide(r *rand.Rand, l rules, f files, blobs []api.Id) files {
	var tos []string
	for _, rule := range l {
		if rule.Kind != api.DropRule {
			tos = append(tos, toOf(rule))
		}
	}
	g := someFiles(r, tos, blobs)
	if of, err := l.of(f); err == api.OK && r.Intn(2) == 0 {
		maps.Copy(g, of)
	}
	maps.DeleteFunc(g, func(path string, _ api.Id) bool {
		_, has := l.source(path)
		return !has && r.Intn(8) > 0
	})
	for g.clashes() {
		for path := range g {
			delete(g, path)
			break
		}
	}
	return g
}

// P15.1 to P15.5: trees by rules, long ones and short ones.
func TestByModel(t *testing.T) {
	counts := map[api.Errno]int{}
	for seed := range int64(4000) {
		r := rand.New(rand.NewSource(seed))
		s, _ := open(t)
		blobs := []api.Id{putBlob(t, s, "1"), putBlob(t, s, "2")}
		l := someRules(r)
		var froms []string
		for _, rule := range l {
			froms = append(froms, rule.From)
		}
		f := someFiles(r, froms, blobs)
		g := someSide(r, l, f, blobs)
		c := trial{s: s, l: l, m: mapOf(t, l...), f: f, g: g, a: f.in(t, s), b: g.in(t, s)}
		wantCase(t, c)
		near := maps.Clone(f)
		for path := range someFiles(r, froms, blobs) {
			delete(near, path)
		}
		for _, path := range sortedPaths(near) {
			if r.Intn(4) == 0 {
				near[path] = blobs[1]
			}
		}
		c.g, c.b = near, near.in(t, s)
		wantCase(t, c)
		_, err := l.back(f, g)
		counts[err]++
		_, err = l.of(f)
		counts[err+1000]++
	}
	for _, err := range []api.Errno{api.OK, api.ErrImage, api.ErrLong, api.ErrClash, 1000, 1000 + api.ErrLong, 1000 + api.ErrClash} {
		if counts[err] < 20 {
			t.Errorf("of the answer %d there are %d cases alone: %v", err, counts[err], counts)
		}
	}
}

// P15.6: by two maps put together, and by one behind the other.
func TestComposed(t *testing.T) {
	same, long := 0, 0
	for seed := range int64(3000) {
		r := rand.New(rand.NewSource(seed))
		s, _ := open(t)
		l, k := someRules(r), someRules(r)
		if r.Intn(2) == 0 { // rules for what the first ones answer
			for i, rule := range k {
				if len(l) > 0 {
					k[i].From = behind(toOf(l[r.Intn(len(l))]), names(rule.From))
				}
			}
		}
		second, fault := pathmap.New(k)
		if fault.Err != api.OK {
			continue
		}
		both, err := pathmap.Compose(mapOf(t, l...), second)
		if err != api.OK {
			continue
		}
		var froms []string
		for _, rule := range l {
			froms = append(froms, rule.From)
		}
		f := someFiles(r, froms, []api.Id{putBlob(t, s, "1")})
		of, err := project.Of(s, mapOf(t, l...), f.in(t, s))
		if err != api.OK {
			long++
			continue
		}
		asked, askedErr := project.Of(s, second, of)
		if id, err := project.Of(s, both, f.in(t, s)); id != asked || err != askedErr {
			t.Fatalf("by %+v and %+v, of %q: %x %d, not %x %d", l, k, sortedPaths(f), id, err, asked, askedErr)
		}
		if len(filesOf(t, s, asked)) > 0 {
			same++
		}
	}
	if same < 100 || long == 0 {
		t.Errorf("%d cases with files, %d that are too long", same, long)
	}
	s, _ := open(t)
	id := chapterTree(t, s)
	both, _ := pathmap.Compose(chapter(t), mapOf(t, move("man", ""), drop("man/d")))
	wantFiles(t, s, "by both", "c", "3")(project.Of(s, both, id))
}
