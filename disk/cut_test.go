package disk_test

import (
	"bytes"
	"math"
	"math/rand"
	"slices"
	"strconv"
	"testing"

	"espalier/api"
	"espalier/disk"
)

// P2.5: each raw write done makes it one less; what is refused makes it no less.
func TestCutting(t *testing.T) {
	d := disk.New()
	ok(t, "Cut(3)", d.Cut(3))
	wantCutting(t, d, 3, true)
	wantWrites(t, d, 0)
	ok(t, "Append", d.Append("a", some(33)))
	wantCutting(t, d, 1, true)
	want(t, "Cut(-1)", d.Cut(-1), api.ErrArg)
	want(t, "Cut of the least number", d.Cut(math.MinInt), api.ErrArg)
	wantCutting(t, d, 1, true)
	ok(t, "Rename", d.Rename("a", "b"))
	wantCutting(t, d, 0, true)
	want(t, "Remove", d.Remove("b"), api.ErrCut)
	want(t, "Remove again", d.Remove("b"), api.ErrCut)
	wantCutting(t, d, 0, true)
	wantWrites(t, d, 3)
}

// P2.5: what Cut says holds, whatever was said ahead of it; Mend takes it away.
func TestCutAgain(t *testing.T) {
	d := disk.New()
	ok(t, "Cut(0)", d.Cut(0))
	ok(t, "Cut(2)", d.Cut(2))
	wantCutting(t, d, 2, true)
	ok(t, "Append", d.Append("a", some(64)))
	want(t, "Append", d.Append("a", []byte{1}), api.ErrCut)
	ok(t, "Cut(1), when cut", d.Cut(1))
	ok(t, "Append", d.Append("a", []byte{1}))
	ok(t, "Cut of the greatest number", d.Cut(math.MaxInt))
	wantCutting(t, d, math.MaxInt, true)
	ok(t, "Cut(5)", d.Cut(5))
	wantCutting(t, d, 5, true)
	ok(t, "Mend", d.Mend())
	wantCutting(t, d, 0, false)
	wantWrites(t, d, 3)
	ok(t, "Append of many", d.Append("a", some(1000)))
	wantCutting(t, d, 0, false)
	wantWrites(t, d, 35)
	ok(t, "Mend twice", d.Mend())
	wantCutting(t, d, 0, false)
	wantFile(t, d, "a", slices.Concat(some(64), []byte{1}, some(1000)))
}

// deed is a call on a disk, by numbers.
type deed struct {
	kind     int
	one, two string
	b        []byte
	n        int
}

// do makes its call, and tells what was answered.
func (x deed) do(d *disk.Disk) api.Errno {
	switch x.kind {
	case 0, 1, 2, 3:
		return d.Append(x.one, x.b)
	case 4:
		size, _ := d.Size(x.one)
		return d.Truncate(x.one, min(x.n, size))
	case 5:
		return d.Rename(x.one, x.two)
	}
	return d.Remove(x.one)
}

func randomDeeds(r *rand.Rand) []deed {
	names := []string{"a", "b", "c", "d", "e"}
	deeds := make([]deed, 30)
	for k := range deeds {
		b := make([]byte, r.Intn(100))
		r.Read(b)
		deeds[k] = deed{r.Intn(7), names[r.Intn(5)], names[r.Intn(5)], b, r.Intn(60)}
	}
	return deeds
}

// image is all that a disk's files are, as one text.
func image(d *disk.Disk) string {
	var b bytes.Buffer
	for _, name := range d.Names() {
		file, _ := d.Read(name)
		b.WriteString(name + strconv.Itoa(len(file)) + ":" + string(file))
	}
	return b.String()
}

// model is what the chapter says of files, written down once more as a row of images: one behind each raw write.
type model struct {
	files  map[string]string
	images []string
}

func (m *model) written() {
	text := ""
	names := make([]string, 0, len(m.files))
	for name := range m.files {
		names = append(names, name)
	}
	slices.Sort(names)
	for _, name := range names {
		text += name + strconv.Itoa(len(m.files[name])) + ":" + m.files[name]
	}
	m.images = append(m.images, text)
}

func (m *model) do(x deed) {
	file, there := m.files[x.one]
	switch x.kind {
	case 0, 1, 2, 3:
		if !there && len(x.b) == 0 {
			m.files[x.one] = ""
			m.written()
		}
		for k := 0; k < len(x.b); k += 32 {
			m.files[x.one] += string(x.b[k:min(k+32, len(x.b))])
			m.written()
		}
	case 4:
		if x.n < len(file) {
			m.files[x.one] = file[:x.n]
			m.written()
		}
	case 5:
		if there && x.one != x.two {
			delete(m.files, x.one)
			m.files[x.two] = file
			m.written()
		}
	case 6:
		if there {
			delete(m.files, x.one)
			m.written()
		}
	}
}

// P2.6: a disk that is cut behind n raw writes is what another one was behind its nth, and stays so.
func TestCutEverywhere(t *testing.T) {
	for seed := range int64(40) {
		deeds := randomDeeds(rand.New(rand.NewSource(seed)))
		m := &model{files: map[string]string{}, images: []string{""}}
		d := disk.New()
		for _, x := range deeds {
			x.do(d)
			m.do(x)
			if d.Writes() != len(m.images)-1 || image(d) != m.images[d.Writes()] {
				t.Fatalf("seed %d: %d raw writes, not %d, or other files", seed, d.Writes(), len(m.images)-1)
			}
		}
		for n := range m.images {
			cut := disk.New()
			cut.Cut(n)
			for _, x := range deeds {
				x.do(cut)
				if cut.Writes() > n || image(cut) != m.images[cut.Writes()] {
					t.Fatalf("seed %d, cut behind %d: unlike at %d", seed, n, cut.Writes())
				}
			}
			if cut.Writes() != n || image(cut) != m.images[n] {
				t.Fatalf("seed %d, cut behind %d: not what was written by then", seed, n)
			}
			cut.Mend()
			if image(cut) != m.images[n] {
				t.Fatalf("seed %d, cut behind %d: mended it is another one", seed, n)
			}
		}
	}
}

// P2.6: on a disk that is cut a call answers ErrCut just if it would do a raw write; else what it answers without a cut.
func TestCutAnswers(t *testing.T) {
	for seed := range int64(40) {
		d := disk.New()
		for _, x := range randomDeeds(rand.New(rand.NewSource(seed))) {
			cut := d.Copy()
			cut.Cut(0)
			before, was := d.Writes(), image(cut)
			asked := x.do(d)
			if d.Writes() > before {
				asked = api.ErrCut
			}
			want(t, "a call when cut", x.do(cut), asked)
			if image(cut) != was || cut.Writes() != 0 {
				t.Errorf("seed %d: a disk that is cut was written", seed)
			}
		}
	}
}
