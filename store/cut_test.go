package store_test

import (
	"math/rand"
	"strings"
	"testing"

	"espalier/api"
	"espalier/disk"
	"espalier/object"
	"espalier/store"
)

// pool is objects of all kinds, of many lengths, some that collide, and some that may not be.
func pool() []api.Object {
	one, other := colliding("")
	three, four := colliding("more")
	blob := exampleBlob()
	return []api.Object{
		one, other, three, four, zeroBlob(), blob, api.Blob{}, api.Tree{}, exampleTree(), exampleCommit(),
		blobOf(strings.Repeat("x", 22)), blobOf(strings.Repeat("x", 23)), blobOf(strings.Repeat("y", 100)),
		api.Commit{Tree: 1}, api.Commit{Tree: 1, Text: strings.Repeat("é", 40)},
		api.Tree{Entries: []api.Entry{{Name: "a", Id: 1}, {Name: "b", Folder: true, Id: 2}, {Name: "c", Id: 1}}},
		nil, &blob, api.Commit{}, api.Blob{Bytes: make([]byte, 4097)},
	}
}

// model is what a store has, as the chapter's words say.
type model struct {
	list []api.Object
	cut  bool // a Put was cut
}

// put is P7.2's answer, on a disk that does all raw writes.
func (m *model) put(o api.Object) (api.Id, api.Errno) {
	if err := object.Check(o); err != api.OK {
		return 0, err
	}
	for _, there := range m.list {
		if idOf(there) != idOf(o) {
			continue
		}
		if string(bytesOf(there)) != string(bytesOf(o)) {
			return 0, api.ErrCollision
		}
		return idOf(o), api.OK
	}
	if m.cut {
		return 0, api.ErrCut
	}
	m.list = append(m.list, o)
	return idOf(o), api.OK
}

// P7.1 to P7.4: stores by the model, opened again at times.
func TestByModel(t *testing.T) {
	some := pool()
	for seed := range int64(300) {
		r := rand.New(rand.NewSource(seed))
		d := disk.New()
		s := open(t, d)
		var m model
		for range 30 {
			o := some[r.Intn(len(some))]
			before, had := d.Writes(), len(m.list)
			id, err := s.Put(o)
			askedId, asked := m.put(o)
			if id != askedId || err != asked {
				t.Fatalf("seed %d: Put(%#v): %x %d, not %x %d", seed, o, id, err, askedId, asked)
			}
			if (d.Writes() == before) != (len(m.list) == had) {
				t.Fatalf("seed %d: Put(%#v): %d raw writes", seed, o, d.Writes()-before)
			}
			if r.Intn(5) == 0 {
				s = open(t, d)
			}
			from := r.Intn(len(m.list) + 1)
			wantSince(t, s, from, idsOf(m.list[from:]...)...)
		}
		wantObjects(t, s, m.list...)
		wantObjects(t, open(t, d.Copy()), m.list...)
		wantFile(t, d, fileOf(m.list...))
	}
}

// putSome puts in as the model does; what is cut is noted in it.
func putSome(t *testing.T, s *store.Store, m *model, list []api.Object) {
	t.Helper()
	for _, o := range list {
		id, err := s.Put(o)
		if err == api.ErrCut {
			m.cut = true
		}
		if askedId, asked := m.put(o); id != askedId || err != asked {
			t.Fatalf("Put(%#v): %x %d, not %x %d", o, id, err, askedId, asked)
		}
	}
}

// shuffled is some of the pool, some of it more than once.
func shuffled(r *rand.Rand) []api.Object {
	some := pool()
	list := make([]api.Object, 12)
	for k := range list {
		list[k] = some[r.Intn(len(some))]
	}
	return list
}

// P7.5: cut at each raw write, mended, opened, gone on, and cut once more.
func TestCutEverywhere(t *testing.T) {
	for seed := range int64(30) {
		r := rand.New(rand.NewSource(seed))
		list, more := shuffled(r), shuffled(r)
		whole := disk.New()
		putSome(t, open(t, whole), &model{}, list)
		for cut := range whole.Writes() + 1 {
			d := disk.New()
			s := open(t, d)
			var m model
			d.Cut(cut)
			putSome(t, s, &m, list)
			if m.cut != (cut < whole.Writes()) {
				t.Fatalf("seed %d, cut behind %d: %t", seed, cut, m.cut)
			}
			wantObjects(t, s, m.list...)
			d.Mend()
			goOn(t, d, &m, more, r.Intn(20))
		}
	}
}

// goOn opens a mended disk with the model's objects, and puts in more, cut behind so many raw writes.
func goOn(t *testing.T, d *disk.Disk, m *model, more []api.Object, cut int) {
	t.Helper()
	m.cut = false
	s := open(t, d)
	wantObjects(t, s, m.list...)
	d.Cut(cut)
	putSome(t, s, m, more)
	d.Mend()
	wantObjects(t, open(t, d), m.list...)
	before := d.Writes()
	wantObjects(t, open(t, d), m.list...)
	wantWrites(t, d, before)
	wantFile(t, d, fileOf(m.list...))
}

// P7.2, P7.5: a store whose Put was cut takes no new object, when the disk is mended neither, and tells what it had.
func TestCutSticks(t *testing.T) {
	d := disk.New()
	s := open(t, d)
	put(t, s, exampleBlob())
	d.Cut(1)
	wantPut(t, "a long one, cut", s, blobOf(strings.Repeat("x", 100)), api.ErrCut)
	d.Mend()
	before := d.Writes()
	wantPut(t, "it again", s, blobOf(strings.Repeat("x", 100)), api.ErrCut)
	wantPut(t, "a short one", s, api.Blob{}, api.ErrCut)
	wantPut(t, "nil", s, nil, api.ErrObject)
	put(t, s, exampleBlob())
	wantWrites(t, d, before)
	wantObjects(t, s, exampleBlob())
	wantNone(t, s, idOf(blobOf(strings.Repeat("x", 100))), api.ErrNone)

	s = open(t, d)
	wantObjects(t, s, exampleBlob())
	put(t, s, blobOf(strings.Repeat("x", 100)), exampleTree())
	wantObjects(t, open(t, d), exampleBlob(), blobOf(strings.Repeat("x", 100)), exampleTree())
}
