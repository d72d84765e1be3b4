package carve_test

import (
	"slices"
	"strings"
	"testing"

	"espalier/api"
	"espalier/carve"
	"espalier/disk"
	"espalier/memo"
	"espalier/pathmap"
)

// Two texts of one Key, found by trying.
const (
	oneText   = "keep e60e6b8ce2805a56\n"
	otherText = "keep 0d4edaf4c5e38aae\n"
)

// alikeMaps is two Maps that are not the Same, and have one Key.
func alikeMaps(t *testing.T) (*pathmap.Map, *pathmap.Map) {
	t.Helper()
	one, other := mapOf(t, keep("e60e6b8ce2805a56")), mapOf(t, keep("0d4edaf4c5e38aae"))
	if one.Text() != oneText || other.Text() != otherText || one.Key() != other.Key() || one.Same(other) {
		t.Fatalf("%q %q, %x %x", one.Text(), other.Text(), one.Key(), other.Key())
	}
	return one, other
}

// wantTexts wants a disk to have just the rules' files of these texts, whose keys rise.
func wantTexts(t *testing.T, what string, d *disk.Disk, asked ...string) {
	t.Helper()
	var told []string
	for key, text := range carve.Texts(d) {
		if key != keyOf(text) {
			t.Errorf("%s: the key %x of %q", what, key, text)
		}
		told = append(told, text)
	}
	if !slices.Equal(told, asked) {
		t.Errorf("%s: %q, not %q", what, told, asked)
	}
}

// P19.2: new rules are written, once; the memo is that of the Map's Key.
func TestMemo(t *testing.T) {
	var many []api.Rule
	for k := range api.MaxRules {
		name := strings.Repeat("\u00fc", 8) + string(rune('0'+k))
		many = append(many, move(name+"/from/"+strings.Repeat("x", 32), name+"/to"))
	}
	for _, m := range []*pathmap.Map{mapOf(t, keep("a")), pathmap.Trivial(), mapOf(t), mapOf(t, keep("src"), drop("src/old"), move("docs/api", "man")), mapOf(t, many...)} {
		c, d := onDisk(t)
		known := memoOf(t, c, m)
		text := m.Text()
		wantFile(t, d, rulesOf(text), recordOf(text))
		if names := d.Names(); !slices.Equal(names, []string{rulesOf(text)}) {
			t.Errorf("files: %v", names)
		}
		if m.Key() != keyOf(text) || known.Len() != 0 {
			t.Errorf("%x, %d pairs", m.Key(), known.Len())
		}
		writes := d.Writes()
		d.Cut(0)
		memoOf(t, c, m)
		memoOf(t, open(t, d), m)
		wantWrites(t, "once more", d, writes)
		d.Mend()

		if err := memoOf(t, c, m).Add(pair(3, 9)); err != api.OK {
			t.Fatal(err)
		}
		wantPairs(t, c, m, pair(3, 9))
		other, err := memo.Open(d, m.Key())
		if err != api.OK || other.Len() != 1 {
			t.Errorf("not the Key's memo: %d", err)
		}
		wantFile(t, d, rulesOf(text), recordOf(text))
	}
}

// P19.2: rules of the same form have one file, and one memo; others have others.
func TestMemosApart(t *testing.T) {
	c, d := onDisk(t)
	m, same, other := mapOf(t, keep("a")), mapOf(t, keep("a/x"), keep("a"), drop("b")), mapOf(t, keep("b"))
	memoOf(t, c, m).Add(pair(3, 9))
	wantPairs(t, c, same, pair(3, 9))
	wantPairs(t, c, other)
	memoOf(t, c, other).Add(pair(3, 8), pair(4, 0))
	wantPairs(t, c, m, pair(3, 9))
	wantPairs(t, c, other, pair(3, 8), pair(4, 0))
	asked := []string{memoFile("keep a\n"), memoFile("keep a\n") + "-1", memoFile("keep b\n"), memoFile("keep b\n") + "-1", rulesOf("keep a\n"), rulesOf("keep b\n")}
	slices.Sort(asked)
	if names := d.Names(); !slices.Equal(names, asked) {
		t.Errorf("files: %v, not %v", names, asked)
	}
}

// P19.2: each call goes by what the disk has, not by what an earlier one opened.
func TestMemoOpensAgain(t *testing.T) {
	c, d := onDisk(t)
	m := mapOf(t, keep("a"))
	first := memoOf(t, c, m)
	if memoOf(t, c, m) == first {
		t.Error("the same Memo")
	}
	memoOf(t, c, m).Add(pair(3, 9))
	if first.Len() != 0 {
		t.Error("an earlier Memo has what was added later")
	}
	// A Memo that was cut takes nothing more, but the next one does.
	d.Cut(0)
	cut := memoOf(t, c, m)
	if err := cut.Add(pair(4, 9)); err != api.ErrCut {
		t.Error(err)
	}
	d.Mend()
	if err := cut.Add(pair(4, 9)); err != api.ErrCut {
		t.Error(err)
	}
	if err := memoOf(t, c, m).Add(pair(4, 9)); err != api.OK {
		t.Error(err)
	}
	d.Remove(memoFile("keep a\n"))
	wantPairs(t, c, m)
	d.Remove(rulesOf("keep a\n"))
	wantPairs(t, c, m)
	wantFile(t, d, rulesOf("keep a\n"), recordOf("keep a\n"))
	lay(t, d, memoFile("keep a\n"), []byte{0x80, 0})
	wantNoMemo(t, "a broken memo", c, m, api.ErrBroken)
}

// P19.2: rules' files that are right, with no record, or with a part of one.
func TestMemoRulesWithoutRecord(t *testing.T) {
	m, text := mapOf(t, keep("a")), "keep a\n"
	whole := recordOf(text)
	for n := range len(whole) {
		c, d := onDisk(t)
		lay(t, d, rulesOf(text), whole[:n])
		d.Cut(0)
		wantNoMemo(t, "cut", c, m, api.ErrCut)
		wantFile(t, d, rulesOf(text), whole[:n])
		d.Mend()
		memoOf(t, c, m)
		wantFile(t, d, rulesOf(text), whole)
	}
	// A part of a second record that a cut left behind the first one goes.
	c, d := onDisk(t)
	lay(t, d, rulesOf(text), whole, []byte{9, 1})
	memoOf(t, c, m)
	wantFile(t, d, rulesOf(text), whole)
}

// P19.2: rules' files that are wrong; nothing is written, and no memo is opened.
func TestMemoRulesWrong(t *testing.T) {
	text := "keep a\n"
	whole := recordOf(text)
	turned := slices.Clone(whole)
	turned[2] ^= 1
	for _, row := range []struct {
		what  string
		bytes []byte
		asked api.Errno
	}{
		{"no journal", []byte{0x80, 0}, api.ErrBroken},
		{"a byte turned", turned, api.ErrBroken},
		{"wrong behind the record", append(slices.Clone(whole), 0x80, 0), api.ErrBroken},
		{"twice the Text", slices.Concat(whole, whole), api.ErrBroken},
		{"the Text and another one", slices.Concat(whole, recordOf("keep b\n")), api.ErrBroken},
		{"another one and the Text", slices.Concat(recordOf("keep b\n"), whole), api.ErrBroken},
		{"no bytes and the Text", slices.Concat(recordOf(""), whole), api.ErrBroken},
		{"the Text and no bytes", slices.Concat(whole, recordOf("")), api.ErrBroken},
		{"three records", slices.Repeat(recordOf("keep b\n"), 3), api.ErrBroken},
		{"another Text", recordOf("keep b\n"), api.ErrCollision},
		{"no Text", recordOf(""), api.ErrCollision},
		{"a part of the Text", recordOf("keep a"), api.ErrCollision},
		{"more than the Text", recordOf("keep a\n\n"), api.ErrCollision},
		{"the same rules otherwise", recordOf("keep  a\n"), api.ErrCollision},
		{"what is no set of rules", recordOf("\xff"), api.ErrCollision},
	} {
		c, d, h := chapterDisk(t)
		m := mapOf(t, keep("a"))
		lay(t, d, rulesOf(text), row.bytes)
		lay(t, d, memoFile(text), []byte{3}) // a part of a record, which memo.Open would take away
		before := d.Copy()
		wantNoMemo(t, row.what, c, m, row.asked)
		wantNone(t, row.what, row.asked)(c.Head(m, h.five))
		wantNone(t, row.what, row.asked)(c.Head(m, missing))
		wantNone(t, row.what, row.asked)(c.Carve(m, "host", "side"))
		d.Cut(0)
		wantNoMemo(t, row.what+", cut", c, m, row.asked)
		wantSameFiles(t, row.what, d, before)
		wantRef(t, c, "side", 0)
	}
}

// P19.2: two Maps that are not the Same, and have one Key: the second one is found out.
func TestOneKey(t *testing.T) {
	one, other := alikeMaps(t)
	for range 2 {
		c, d := onDisk(t)
		id := commit(t, c.Store(), "1", files{"e60e6b8ce2805a56", "1", "b", "1"})
		set(t, c, ref("host", id))
		if _, err := c.Carve(one, "host", "one"); err != api.OK {
			t.Fatal(err)
		}
		before := d.Copy()
		wantNoMemo(t, "one Key", c, other, api.ErrCollision)
		wantNone(t, "one Key", api.ErrCollision)(c.Head(other, id))
		wantNone(t, "one Key", api.ErrCollision)(c.Carve(other, "host", "other"))
		wantNone(t, "one Key, opened again", api.ErrCollision)(open(t, d).Carve(other, "host", "other"))
		wantSameFiles(t, "one Key", d, before)
		wantRef(t, c, "other", 0)
		wantTexts(t, "one Key", d, one.Text())
		one, other = other, one
	}
}

// P19.2: a disk that has as many files as may be takes no rules; memo.Open's errors come behind the rules.
func TestMemoErrors(t *testing.T) {
	c, d, h := chapterDisk(t)
	m := mapOf(t, keep("a"))
	for k := range api.MaxFiles - len(d.Names()) {
		lay(t, d, "x."+strings.Repeat("y", k%20)+strings.Repeat("z", k/20), nil)
	}
	if len(d.Names()) != api.MaxFiles {
		t.Fatal(len(d.Names()))
	}
	wantNoMemo(t, "a full disk", c, m, api.ErrLong)
	wantNone(t, "a full disk", api.ErrLong)(c.Head(m, missing))
	wantNone(t, "a full disk", api.ErrLong)(c.Carve(m, "host", "side"))
	d.Remove("x.")
	memoOf(t, c, m)

	c, d, h = chapterDisk(t)
	lay(t, d, memoFile("keep a\n"), []byte{0x80, 0})
	wantNoMemo(t, "a broken memo", c, m, api.ErrBroken)
	wantFile(t, d, rulesOf("keep a\n"), recordOf("keep a\n"))
	wantNone(t, "a broken memo", api.ErrBroken)(c.Head(m, h.five))
	wantNone(t, "a broken memo", api.ErrBroken)(c.Head(m, missing))
	wantNone(t, "a broken memo", api.ErrBroken)(c.Carve(m, "host", "side"))
	wantRef(t, c, "side", 0)

	// New rules go ahead of the memo, on a disk that does no raw write more.
	c, d, _ = chapterDisk(t)
	lay(t, d, memoFile("keep a\n"), []byte{0x80, 0})
	d.Cut(0)
	wantNoMemo(t, "a broken memo, cut", c, m, api.ErrCut)
	d.Cut(1)
	wantNoMemo(t, "a broken memo, cut later", c, m, api.ErrBroken)

	// What a memo takes away when it is opened.
	c, d, _ = chapterDisk(t)
	memoOf(t, c, m)
	lay(t, d, memoFile("keep a\n")+"-9", []byte("no run"))
	d.Cut(0)
	wantNoMemo(t, "a run that does not count, cut", c, m, api.ErrCut)
	wantNone(t, "a run that does not count, cut", api.ErrCut)(c.Head(m, missing))
	d.Mend()
	memoOf(t, c, m)
	if _, err := d.Size(memoFile("keep a\n") + "-9"); err != api.ErrNone {
		t.Error("it is there yet")
	}
}

// P19.5: of all rules' files, by rising keys, whichever way they came.
func TestTexts(t *testing.T) {
	wantTexts(t, "nil", nil)
	wantTexts(t, "a new disk", disk.New())
	c, d := onDisk(t)
	var asked []string
	for _, name := range strings.Split("abcdefghijklmnopqrst", "") {
		m := mapOf(t, move(name, "z"))
		memoOf(t, c, m)
		asked = append(asked, m.Text())
	}
	memoOf(t, c, mapOf(t))
	memoOf(t, c, pathmap.Trivial())
	asked = append(asked, "", "keep /\n")
	slices.SortFunc(asked, func(s, u string) int {
		if keyOf(s) < keyOf(u) {
			return -1
		}
		return 1
	})
	wantTexts(t, "many", d, asked...)
	wantTexts(t, "a copy", d.Copy(), asked...)
	d.Cut(0)
	wantTexts(t, "cut", d, asked...)

	// Left early, and gone through again.
	seq := carve.Texts(d)
	for range 2 {
		n := 0
		for _, text := range seq {
			if text != asked[n] {
				t.Errorf("%d: %q", n, text)
			}
			if n++; n == 3 {
				break
			}
		}
	}
}

// P19.5: names that are no rules' files', and files of them that have no record, or are no journals.
func TestTextsOfOtherFiles(t *testing.T) {
	d := disk.New()
	record := recordOf("keep a\n")
	hex := "0123456789abcdef"
	for _, name := range []string{
		"rules-", "rules", "rules-0123456789abcde", "rules-0123456789abcdef0", "rules-0123456789abcdeg", "rules-0123456789abcde.", "rules-0123456789abcdef-1", "rules-0123456789abcdef-", "rules--123456789abcdef",
		"rules.0123456789abcdef", "rule-0123456789abcdef", "ruless-0123456789abcdef", "memo-0123456789abcdef", "memo-0123456789abcdef-1", hex, "-" + hex, "x" + "rules-" + hex, "r", "refs", "objects",
		"rules-0000000000000000", // no Map has the key 0
	} {
		lay(t, d, name, record)
	}
	lay(t, d, "rules-0000000000000001", record)
	lay(t, d, "rules-0000000000000002")
	lay(t, d, "rules-0000000000000003", record[:len(record)-1])
	lay(t, d, "rules-0000000000000004", []byte{0x80, 0})
	lay(t, d, "rules-0000000000000005", record, []byte{0x80, 0})
	lay(t, d, "rules-0000000000000006", recordOf("\xff\x00 any bytes"), record[:5])
	lay(t, d, "rules-0000000000000007", recordOf("the first"), recordOf("of two"))
	lay(t, d, "rules-0000000000000008", recordOf(""))
	lay(t, d, "rules-00000000000000a0", recordOf("a0"))
	lay(t, d, "rules-00000000000000ff", recordOf("ff"))
	lay(t, d, "rules-0000000000000100", recordOf("100"))
	lay(t, d, "rules-ffffffffffffffff", recordOf("last"))
	before, writes := d.Copy(), d.Writes()
	asked := []struct {
		key  api.Id
		text string
	}{
		{1, "keep a\n"}, {6, "\xff\x00 any bytes"}, {7, "the first"}, {8, ""}, {0xa0, "a0"}, {0xff, "ff"}, {0x100, "100"}, {1<<64 - 1, "last"},
	}
	for _, cut := range []bool{false, true} {
		if cut {
			d.Cut(0)
		}
		n := 0
		for key, text := range carve.Texts(d) {
			if n < len(asked) && (key != asked[n].key || text != asked[n].text) {
				t.Errorf("%d: %x %q, not %v", n, key, text, asked[n])
			}
			n++
		}
		if n != len(asked) {
			t.Errorf("%d texts, not %d", n, len(asked))
		}
		wantWrites(t, "Texts", d, writes)
		wantSameFiles(t, "Texts", d, before)
	}
	if left, cutting := d.Cutting(); left != 0 || !cutting {
		t.Error("the disk is mended")
	}
}

// P19.5, R6: what is told is what there is when going through begins.
func TestTextsWhileGoing(t *testing.T) {
	c, d := onDisk(t)
	a, b := mapOf(t, keep("a")), mapOf(t, keep("b"))
	seq := carve.Texts(d)
	wantOf := func(what string, asked ...string) {
		t.Helper()
		var told []string
		for _, text := range seq {
			told = append(told, text)
			for _, name := range d.Names() {
				d.Remove(name)
			}
			memoOf(t, c, pathmap.Trivial())
		}
		if !slices.Equal(told, asked) {
			t.Errorf("%s: %q, not %q", what, told, asked)
		}
	}
	memoOf(t, c, a)
	memoOf(t, c, b)
	asked := []string{a.Text(), b.Text()}
	if a.Key() > b.Key() {
		slices.Reverse(asked)
	}
	wantOf("two", asked...)
	wantOf("what came meanwhile", "keep /\n")
}
