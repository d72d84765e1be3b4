package tree_test

import (
	"cmp"
	"maps"
	"math/rand"
	"slices"
	"strings"
	"testing"

	"espalier/api"
	"espalier/name"
	"espalier/store"
	"espalier/tree"
)

// model is the files of a sound tree: their texts by their paths.
type model map[string]string

// id is that of the tree, worked out without a store.
func (m model) id() api.Id {
	var entries []api.Entry
	within := map[string]model{}
	for path, text := range m {
		first, rest, deeper := strings.Cut(path, "/")
		if !deeper {
			entries = append(entries, file(first, idOf(blobOf(text))))
			continue
		}
		if within[first] == nil {
			within[first] = model{}
		}
		within[first][rest] = text
	}
	for first, files := range within {
		entries = append(entries, folder(first, files.id()))
	}
	slices.SortFunc(entries, func(a, b api.Entry) int { return cmp.Compare(a.Name, b.Name) })
	return idOf(api.Tree{Entries: entries})
}

// in is the files that lie in a path, by their rests there.
func (m model) in(path string) model {
	some := model{}
	for at, text := range m {
		if rest, lies := name.Rest(at, path); lies {
			some[rest] = text
		}
	}
	return some
}

// without is the files that do not lie in a path.
func (m model) without(path string) model {
	some := maps.Clone(m)
	maps.DeleteFunc(some, func(at, _ string) bool { return name.In(at, path) })
	return some
}

// blocks says whether a file stands on the way to a path.
func (m model) blocks(path string) bool {
	for at := range m {
		if at != path && name.In(path, at) {
			return true
		}
	}
	return false
}

// put is P9.4's answer.
func (m model) put(path, text string) (model, api.Errno) {
	_, there := m[path]
	switch {
	case path == "":
		return nil, api.ErrArg
	case m.blocks(path), !there && len(m.in(path)) > 0:
		return nil, api.ErrClash
	}
	out := maps.Clone(m)
	out[path] = text
	return out, api.OK
}

// remove is P9.4's answer.
func (m model) remove(path string) (model, api.Errno) {
	if len(m.in(path)) == 0 {
		return nil, api.ErrNone
	}
	return m.without(path), api.OK
}

// lay is P9.3's answer for a folder.
func (m model) lay(path string, some model) (model, api.Errno) {
	if len(some) == 0 {
		return m.without(path), api.OK
	}
	if m.blocks(path) {
		return nil, api.ErrClash
	}
	out := m.without(path)
	for rest, text := range some {
		at, _ := name.Join(path, rest)
		out[at] = text
	}
	return out, api.OK
}

// somePath is a path of few names.
func somePath(r *rand.Rand) string {
	parts := []string{"a", "b", "a.", "é"}
	var names []string
	for range r.Intn(4) {
		names = append(names, parts[r.Intn(len(parts))])
	}
	return strings.Join(names, "/")
}

func someText(r *rand.Rand) string { return string([]byte{'0' + byte(r.Intn(4))}) }

// wantModel wants a tree to be the model's, by all calls that tell of it.
func wantModel(t *testing.T, s *store.Store, id api.Id, m model) {
	t.Helper()
	var texts []string
	height, width := 0, 0
	for _, path := range slices.SortedFunc(maps.Keys(m), name.Compare) {
		texts = append(texts, path, m[path])
		height, width = max(height, name.Depth(path)), max(width, len(path))
		wantFile(t, s, id, path, m[path])
	}
	wantFiles(t, s, id, texts...)
	wantSize(t, s, id, height, width, len(m))
	wantSound(t, s, id, api.OK)
	list, _ := tree.Files(s, id, len(m))
	want(t, "Of Files", id)(tree.Of(s, list))
}

// wantStep wants a call to answer as the model does, and goes on with what it made.
func wantStep(t *testing.T, what string, m, asked model, askedErr api.Errno, id, out api.Id, err api.Errno) (model, api.Id) {
	t.Helper()
	if askedErr != api.OK {
		wantErr(t, what, askedErr)(out, err)
		return m, id
	}
	want(t, what, asked.id())(out, err)
	return asked, out
}

// P9.2 to P9.9: trees by the model.
func TestByModel(t *testing.T) {
	for seed := range int64(60) {
		r := rand.New(rand.NewSource(seed))
		s, _ := open(t)
		id, m := grown(t, s), model{}
		past := []model{m}
		for range 30 {
			path, text := somePath(r), someText(r)
			before := s.Len()
			switch r.Intn(4) {
			case 0, 1:
				asked, askedErr := m.put(path, text)
				out, err := tree.Put(s, id, path, []byte(text))
				m, id = wantStep(t, "Put at "+path, m, asked, askedErr, id, out, err)
			case 2:
				asked, askedErr := m.remove(path)
				out, err := tree.Remove(s, id, path)
				m, id = wantStep(t, "Remove of "+path, m, asked, askedErr, id, out, err)
			case 3:
				some := past[r.Intn(len(past))]
				asked, askedErr := m.lay(path, some)
				if path == "" {
					asked, askedErr = some, api.OK
				}
				out, err := tree.Lay(s, id, path, folder(text, some.id()))
				m, id = wantStep(t, "Lay at "+path, m, asked, askedErr, id, out, err)
				if more := s.Len() - before; more > name.Depth(path) {
					t.Errorf("Lay at %q put in %d trees", path, more)
				}
			}
			past = append(past, m)
			wantModel(t, s, id, m)
			wantFollows(t, s, id, m, r)
		}
	}
}

// wantFollows holds P9.8 of a tree.
func wantFollows(t *testing.T, s *store.Store, id api.Id, m model, r *rand.Rand) {
	t.Helper()
	one, two := somePath(r), somePath(r)
	whole := one
	if joined, err := name.Join(one, two); err == api.OK {
		whole = joined
	}
	if e, err := tree.Find(s, id, one); err == api.OK && e.Folder && two != "" {
		inner, innerErr := tree.Find(s, e.Id, two)
		if found, err := tree.Find(s, id, whole); found != inner || err != innerErr {
			t.Errorf("Find of %q: %v %d, of %q in %q: %v %d", whole, found, err, two, one, inner, innerErr)
		}
	}
	more, err := tree.Put(s, id, one, []byte("x"))
	if err != api.OK {
		return
	}
	if len(m.in(one)) == 0 {
		want(t, "Remove behind Put", id)(tree.Remove(s, more, one))
	}
	wantFile(t, s, more, one, "x")
	other, err := tree.Put(s, id, two, []byte("y"))
	if name.In(one, two) || name.In(two, one) || err != api.OK {
		return
	}
	asked, err := tree.Put(s, more, two, []byte("y"))
	if err != api.OK {
		t.Errorf("Put at %q behind Put at %q: %d", two, one, err)
	}
	want(t, "Puts the other way round", asked)(tree.Put(s, other, one, []byte("x")))
}
