package name_test

import (
	"math/rand"
	"slices"
	"strings"
	"testing"

	"espalier/api"
	"espalier/name"
)

func want(t *testing.T, call string, err, asked api.Errno) {
	t.Helper()
	if err != asked {
		t.Errorf("%s: error %d, not %d", call, err, asked)
	}
}

func wantSplit(t *testing.T, path string, err api.Errno, names ...string) {
	t.Helper()
	list, got := name.Split(path)
	if got != err || !slices.Equal(list, names) {
		t.Errorf("Split(%q): %q, error %d, not %q, %d", path, list, got, names, err)
	}
}

func wantMake(t *testing.T, names []string, path string, err api.Errno) {
	t.Helper()
	if text, got := name.Make(names...); got != err || text != path {
		t.Errorf("Make(%q): %q, error %d, not %q, %d", names, text, got, path, err)
	}
}

func wantJoin(t *testing.T, path, rest, whole string, err api.Errno) {
	t.Helper()
	if text, got := name.Join(path, rest); got != err || text != whole {
		t.Errorf("Join(%q, %q): %q, error %d, not %q, %d", path, rest, text, got, whole, err)
	}
}

func wantDir(t *testing.T, path, dir, last string, err api.Errno) {
	t.Helper()
	if front, end, got := name.Dir(path); got != err || front != dir || end != last {
		t.Errorf("Dir(%q): %q, %q, error %d, not %q, %q, %d", path, front, end, got, dir, last, err)
	}
}

func wantDepth(t *testing.T, path string, depth int) {
	t.Helper()
	if got := name.Depth(path); got != depth {
		t.Errorf("Depth(%q): %d, not %d", path, got, depth)
	}
}

// wantNames goes through an iterator twice, and leaves it early at each name in turn.
func wantNames(t *testing.T, path string, names ...string) {
	t.Helper()
	all := name.Names(path)
	for round := range 2 {
		var list []string
		for k, text := range all {
			if k != len(list) {
				t.Fatalf("Names(%q): number %d behind %d names", path, k, len(list))
			}
			list = append(list, text)
		}
		if !slices.Equal(list, names) {
			t.Errorf("Names(%q), round %d: %q, not %q", path, round, list, names)
		}
	}
	for stop := range names {
		told := 0
		for k := range all {
			told++
			if k == stop {
				break
			}
		}
		if told != stop+1 {
			t.Errorf("Names(%q), left at %d: told %d", path, stop, told)
		}
	}
}

// The chapter's rows of Split, Make, Depth, Join and Dir.
func TestExamplesParts(t *testing.T) {
	wantSplit(t, "a/b", api.OK, "a", "b")
	wantSplit(t, "", api.OK)
	wantMake(t, []string{"a", "b/c"}, "", api.ErrName)
	wantDepth(t, "", 0)
	wantDepth(t, "/", -1)
	wantJoin(t, "a", "b/c", "a/b/c", api.OK)
	wantJoin(t, "", "x", "x", api.OK)
	wantJoin(t, "a", "", "a", api.OK)
	wantDir(t, "a/b", "a", "b", api.OK)
	wantDir(t, "a", "", "a", api.OK)
	wantDir(t, "", "", "", api.ErrPath)
}

// P4.2, P4.3: of what is no path the error of Path's Spot, and nothing else.
func TestNoPaths(t *testing.T) {
	for text, err := range map[string]api.Errno{
		"/":            api.ErrName,
		"a/":           api.ErrName,
		"a//b":         api.ErrName,
		"..":           api.ErrName,
		"a\xff/b":      api.ErrName,
		row(17):        api.ErrLong,
		letters(33):    api.ErrLong,
		letters(201):   api.ErrLong,
		row(3) + "/\n": api.ErrName,
	} {
		wantSplit(t, text, err)
		wantNames(t, text)
		wantDepth(t, text, -1)
		wantDir(t, text, "", "", err)
		wantJoin(t, text, "a", "", err)
		wantJoin(t, "a", text, "", err)
		wantJoin(t, text, "", "", err)
		wantJoin(t, "", text, "", err)
	}
}

// P4.3: of two that are no paths the first one's error is answered.
func TestJoinFirstError(t *testing.T) {
	wantJoin(t, "/", row(17), "", api.ErrName)
	wantJoin(t, row(17), "/", "", api.ErrLong)
	wantJoin(t, row(16), "/", "", api.ErrName)
	wantJoin(t, "/", row(16), "", api.ErrName)
}

// P4.2: a wrong name goes ahead of too many, the first wrong one ahead of others.
func TestMakeEdges(t *testing.T) {
	a := slices.Repeat([]string{"a"}, 17)
	wantMake(t, nil, "", api.OK)
	wantMake(t, []string{"a b"}, "a b", api.OK)
	wantMake(t, []string{""}, "", api.ErrName)
	wantMake(t, []string{"a", ""}, "", api.ErrName)
	wantMake(t, []string{"a", ".."}, "", api.ErrName)
	wantMake(t, []string{letters(33), ""}, "", api.ErrLong)
	wantMake(t, []string{"", letters(33)}, "", api.ErrName)
	wantMake(t, a[:16], row(16), api.OK)
	wantMake(t, a, "", api.ErrLong)
	wantMake(t, append(slices.Clone(a), "/"), "", api.ErrName)
	wantMake(t, slices.Repeat(a, 5000), "", api.ErrLong)

	most := slices.Repeat([]string{letters(32)}, 6) // 197 bytes
	wantMake(t, append(slices.Clone(most), "ab"), strings.Join(most, "/")+"/ab", api.OK)
	wantMake(t, append(slices.Clone(most), "abc"), "", api.ErrLong)
	wantMake(t, append(slices.Clone(most), "abc", "\xff"), "", api.ErrName)
}

// P4.2, R3: the names that are handed in stay as they are; a list that is answered is the caller's alone.
func TestPartsNewMemory(t *testing.T) {
	names := []string{"a", "b", "c"}
	name.Make(names[:2]...)
	if !slices.Equal(names, []string{"a", "b", "c"}) {
		t.Errorf("the names handed in are now %q", names)
	}
	one, _ := name.Split("a/b")
	two, _ := name.Split("a/b")
	for k := range one[:cap(one)] {
		one[:cap(one)][k] = "x"
	}
	if !slices.Equal(two, []string{"a", "b"}) {
		t.Errorf("another list is now %q", two)
	}
	wantSplit(t, "a/b", api.OK, "a", "b")
}

// P4.3: at most MaxDepth names and MaxPath bytes; the root adds neither.
func TestJoinLimits(t *testing.T) {
	wantJoin(t, "", "", "", api.OK)
	wantJoin(t, row(16), "", row(16), api.OK)
	wantJoin(t, "", row(16), row(16), api.OK)
	for k := 1; k < 16; k++ {
		wantJoin(t, row(k), row(16-k), row(16), api.OK)
		wantJoin(t, row(k), row(17-k), "", api.ErrLong)
	}
	front := strings.Repeat(letters(32)+"/", 3) + "a" // 100 bytes
	back := front[1:]                                 // 99 bytes
	wantJoin(t, front, back, front+"/"+back, api.OK)
	wantJoin(t, front, front, "", api.ErrLong)
	most := front + "/" + back
	wantJoin(t, most, "", most, api.OK)
	wantJoin(t, "", most, most, api.OK)
	wantJoin(t, most, "a", "", api.ErrLong)
	wantJoin(t, "a", most, "", api.ErrLong)
}

// P4.2, P4.3: many texts held against the model.
func TestPartsByModel(t *testing.T) {
	r := rand.New(rand.NewSource(40))
	for range 30000 {
		text, other := randomText(r), randomText(r)
		err := pathOf(text).Err
		names := namesOf(text)
		wantMake(t, strings.Split(text, "/"), makeText(text), makeErr(strings.Split(text, "/")))
		if err != api.OK {
			wantSplit(t, text, err)
			wantNames(t, text)
			wantDepth(t, text, -1)
			wantDir(t, text, "", "", err)
			continue
		}
		wantSplit(t, text, api.OK, names...)
		wantNames(t, text, names...)
		wantDepth(t, text, len(names))
		if n := len(names); n > 0 {
			wantDir(t, text, strings.Join(names[:n-1], "/"), names[n-1], api.OK)
		}
		whole := strings.Join(slices.Concat(names, namesOf(other)), "/")
		switch spot := pathOf(other); {
		case spot.Err != api.OK:
			wantJoin(t, text, other, "", spot.Err)
		case pathOf(whole).Err != api.OK:
			wantJoin(t, text, other, "", api.ErrLong)
		default:
			wantJoin(t, text, other, whole, api.OK)
		}
	}
}

// namesOf is a path's names; of what is no path none.
func namesOf(path string) []string {
	if path == "" || pathOf(path).Err != api.OK {
		return nil
	}
	return strings.Split(path, "/")
}

// makeErr is what Make answers of some pieces; makeText its path.
func makeErr(pieces []string) api.Errno {
	for _, piece := range pieces {
		if err := checkOf(piece).Err; err != api.OK {
			return err
		}
	}
	if len(pieces) > 16 || len(strings.Join(pieces, "/")) > 200 {
		return api.ErrLong
	}
	return api.OK
}

func makeText(text string) string {
	if makeErr(strings.Split(text, "/")) != api.OK {
		return ""
	}
	return text
}
