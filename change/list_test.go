package change_test

import (
	"slices"
	"strconv"
	"strings"
	"testing"

	"espalier/api"
	"espalier/change"
)

// wantFault wants Check to answer a Fault, and the other calls that hand it on to do so, with no list.
func wantFault(t *testing.T, l []api.Change, err api.Errno, at int) {
	t.Helper()
	asked := api.Fault{Err: err, At: at}
	if f := change.Check(l); f != asked {
		t.Errorf("Check(%v): %v, not %v", told(l), f, asked)
	}
	if err == api.OK {
		return
	}
	if out, f := change.Turn(l); out != nil || f != asked {
		t.Errorf("Turn(%v): %v %v, not %v", told(l), out, f, asked)
	}
	for _, path := range []string{"a", "", "/"} {
		if out, f := change.Within(l, path); out != nil || f != asked {
			t.Errorf("Within(%v, %q): %v %v, not %v", told(l), path, out, f, asked)
		}
	}
	wantNotJoined(t, l, nil, err, at)
	wantNotJoined(t, nil, l, err, at)
}

// told is a list as far as it is fit to be printed.
func told(l []api.Change) []api.Change {
	return l[:min(len(l), 9)]
}

func wantTurned(t *testing.T, l, asked []api.Change) {
	t.Helper()
	if out, f := change.Turn(l); !slices.Equal(out, asked) || f != (api.Fault{}) {
		t.Errorf("Turn(%v): %v %v, not %v", told(l), told(out), f, told(asked))
	}
}

func wantWithin(t *testing.T, l []api.Change, path string, asked []api.Change) {
	t.Helper()
	if out, f := change.Within(l, path); !slices.Equal(out, asked) || f != (api.Fault{}) {
		t.Errorf("Within(%v, %q): %v %v, not %v", told(l), path, told(out), f, told(asked))
	}
}

func wantJoined(t *testing.T, l, m, asked []api.Change) {
	t.Helper()
	if out, f := change.Join(l, m); !slices.Equal(out, asked) || f != (api.Fault{}) {
		t.Errorf("Join(%v, %v): %v %v, not %v", told(l), told(m), told(out), f, told(asked))
	}
}

func wantNotJoined(t *testing.T, l, m []api.Change, err api.Errno, at int) {
	t.Helper()
	asked := api.Fault{Err: err, At: at}
	if out, f := change.Join(l, m); out != nil || f != asked {
		t.Errorf("Join(%v, %v): %v %v, not %v", told(l), told(m), told(out), f, asked)
	}
}

// many is that many changes of files that come.
func many(n int) []api.Change {
	var l []api.Change
	for k := range n {
		l = append(l, api.Change{Path: strconv.Itoa(1<<20 + k), Now: 1})
	}
	return l
}

// P10.2: what a change by itself may be.
func TestCheckOne(t *testing.T) {
	wantFault(t, nil, api.OK, 0)
	wantFault(t, []api.Change{}, api.OK, 0)
	for _, c := range []api.Change{{Path: "a", Now: 1}, {Path: "a", Was: 1}, {Path: "a/b c/é", Was: 1, Now: 2}, {Path: strings.Repeat("a/", 15) + "b", Was: 1<<64 - 1}} {
		wantFault(t, []api.Change{c}, api.OK, 0)
	}
	long := strings.Repeat(strings.Repeat("a", 32)+"/", 6) + "ab"
	wantFault(t, []api.Change{{Path: long, Now: 1}}, api.OK, 0)
	for _, path := range []string{"", "/", "a/", "/a", "a//b", ".", "a/..", "a\x00", "a\xff", strings.Repeat("a", 33), long + "c", strings.Repeat("a/", 16) + "b"} {
		wantFault(t, []api.Change{{Path: path, Now: 1}}, api.ErrArg, 0)
		wantFault(t, []api.Change{{Path: "-", Now: 1}, {Path: path, Now: 1}}, api.ErrArg, 1)
	}
	wantFault(t, []api.Change{{Path: "a"}}, api.ErrArg, 0)
	wantFault(t, []api.Change{{Path: "a", Was: 3, Now: 3}}, api.ErrArg, 0)
	wantFault(t, []api.Change{{Path: "a", Now: 3}, {Path: "b", Was: 3, Now: 3}}, api.ErrArg, 1)
}

// P10.2: paths rise by the order of paths, which is not that of their bytes.
func TestCheckOrder(t *testing.T) {
	wantFault(t, listed("a", "1", "2", "b", "1", "2", "c", "1", "2"), api.OK, 0)
	wantFault(t, listed("a/b", "1", "2", "a.", "1", "2"), api.OK, 0)
	wantFault(t, listed("a.", "1", "2", "a/b", "1", "2"), api.ErrArg, 1)
	wantFault(t, listed("a", "1", "2", "b", "1", "2", "b", "2", "3"), api.ErrArg, 2)
	wantFault(t, listed("a", "1", "2", "c", "1", "2", "b", "1", "2", "a", "1", "2"), api.ErrArg, 2)
	wantFault(t, listed("a/b", "", "1", "a", "1", ""), api.ErrArg, 1)
}

// P10.2: a path may lie in another one's only where they are files at unlike times.
func TestCheckClash(t *testing.T) {
	for _, outer := range []api.Change{{Was: 1}, {Now: 1}, {Was: 1, Now: 2}} {
		for _, inner := range []api.Change{{Was: 1}, {Now: 1}, {Was: 1, Now: 2}} {
			outer.Path, inner.Path = "a", "a/b/c"
			err, at := api.ErrClash, 1
			if outer.Was == 0 && inner.Now == 0 || outer.Now == 0 && inner.Was == 0 {
				err, at = api.OK, 0
			}
			wantFault(t, []api.Change{outer, inner}, err, at)
			inner.Path = "a.b"
			wantFault(t, []api.Change{outer, inner}, api.OK, 0)
			inner.Path = "ab"
			wantFault(t, []api.Change{outer, inner}, api.OK, 0)
		}
	}
	// Not only of the one just ahead.
	wantFault(t, listed("a", "1", "", "a/b", "", "1", "a/c", "", "1", "a/d", "1", ""), api.ErrClash, 3)
	wantFault(t, listed("a", "1", "", "a/b/c", "", "1", "a/b/d", "", "1", "a/e", "", "1", "b", "1", "2"), api.OK, 0)
	wantFault(t, listed("a", "", "1", "a/b", "2", "", "a/b/c", "", "3"), api.ErrClash, 2)
	wantFault(t, listed("a", "1", "", "a/b", "", "2", "a/b/c", "3", ""), api.ErrClash, 2)
	wantFault(t, listed("a", "1", "", "a/b", "", "2", "a/b/c", "", "3"), api.ErrClash, 2)
}

// P10.2: change by change, the first that is wrong, and of it the first that is.
func TestCheckFirst(t *testing.T) {
	wantFault(t, listed("b", "2", "5", "b/c", "", "3", "", "", "1"), api.ErrClash, 1)
	wantFault(t, listed("a", "2", "5", "a", "1", "2", "a/c", "", "3"), api.ErrArg, 1)
	wantFault(t, listed("b", "2", "5", "b/c", "3", "3"), api.ErrArg, 1)
}

// P10.2: MaxChanges, and one more, which is told ahead of all else.
func TestCheckMany(t *testing.T) {
	full := many(api.MaxChanges)
	wantFault(t, full, api.OK, 0)
	wantFault(t, many(api.MaxChanges+1), api.ErrLong, -1)
	full[0].Now, full[api.MaxChanges-1].Now = 0, 0
	wantFault(t, full, api.ErrArg, 0)
	full[0].Now = 1
	wantFault(t, full, api.ErrArg, api.MaxChanges-1)
	wantFault(t, make([]api.Change, api.MaxChanges+1), api.ErrLong, -1)
	wantFault(t, make([]api.Change, api.MaxChanges), api.ErrArg, 0)
}

// P10.4: Turn.
func TestTurn(t *testing.T) {
	wantTurned(t, nil, nil)
	wantTurned(t, listed("a", "1", "2", "b", "3", "", "b/c", "", "4"), listed("a", "2", "1", "b", "", "3", "b/c", "4", ""))
	full := many(api.MaxChanges)
	turned, _ := change.Turn(full)
	wantTurned(t, turned, full)
}

// P10.4: Within.
func TestWithin(t *testing.T) {
	l := listed("a", "1", "", "a/b", "", "1", "a/b.", "", "1", "a.", "1", "2", "ab", "1", "2", "b/c/d", "1", "2", "b/e", "1", "2")
	wantWithin(t, l, "", l)
	wantWithin(t, l, "a", l[:3])
	wantWithin(t, l, "a/b", l[1:2])
	wantWithin(t, l, "a/b/c", nil)
	wantWithin(t, l, "b", l[5:])
	wantWithin(t, l, "b/c", l[5:6])
	wantWithin(t, l, "c", nil)
	wantWithin(t, nil, "a", nil)
	for _, path := range []string{"/", "a/", "a//b", "..", "a\xff", strings.Repeat("a", 33)} {
		if out, f := change.Within(l, path); out != nil || f != (api.Fault{Err: api.ErrArg, At: -1}) {
			t.Errorf("Within %q: %v %v", path, out, f)
		}
	}
}

// P10.4: Join of what is in one list alone, and in both.
func TestJoin(t *testing.T) {
	wantJoined(t, nil, nil, nil)
	l := listed("a", "1", "2", "c/x", "", "1", "e", "1", "")
	wantJoined(t, l, nil, l)
	wantJoined(t, nil, l, l)
	wantJoined(t, l, listed("a", "2", "3", "c/x", "1", "2", "e", "", "3"), listed("a", "1", "3", "c/x", "", "2", "e", "1", "3"))
	wantJoined(t, l, listed("a", "2", "1", "c/x", "1", "", "e", "", "1"), nil)
	wantJoined(t, l, listed("a", "2", ""), listed("a", "1", "", "c/x", "", "1", "e", "1", ""))
	wantJoined(t, l, listed("b", "", "1", "c/y", "", "2", "c.", "3", "", "f", "1", "4"), listed("a", "1", "2", "b", "", "1", "c/x", "", "1", "c/y", "", "2", "c.", "3", "", "e", "1", "", "f", "1", "4"))
	wantJoined(t, listed("b", "", "1", "c/y", "", "2", "c.", "3", "", "f", "1", "4"), l, listed("a", "1", "2", "b", "", "1", "c/x", "", "1", "c/y", "", "2", "c.", "3", "", "e", "1", "", "f", "1", "4"))
	// A file that has become a folder, and a file again.
	wantJoined(t, listed("a", "1", "", "a/b", "", "2"), listed("a", "", "3", "a/b", "2", ""), listed("a", "1", "3"))
	wantJoined(t, listed("a", "1", ""), listed("a/b", "", "2"), listed("a", "1", "", "a/b", "", "2"))
}

// P10.4: the Faults of l, of m, of what is not as it was, and of what comes.
func TestJoinFaults(t *testing.T) {
	right, twice, clash := listed("a", "1", "2"), listed("a", "1", "2", "b", "1", "1"), listed("0", "1", "2", "0/1", "1", "2")
	wantNotJoined(t, twice, clash, api.ErrArg, 1)
	wantNotJoined(t, clash, twice, api.ErrClash, 1)
	wantNotJoined(t, right, clash, api.ErrClash, 1)
	wantNotJoined(t, right, listed("a", "1", "3", "b", "1", "1"), api.ErrArg, 1)
	// ErrStale at the first place of m, which is not that of l.
	wantNotJoined(t, listed("a", "1", "2", "b", "1", "2", "c", "1", "2"), listed("0", "1", "2", "b", "2", "3", "c", "1", "3", "d", "", "1"), api.ErrStale, 2)
	wantNotJoined(t, listed("a", "1", "2", "b", "1", "2", "c", "1", "2"), listed("b", "", "1", "c", "1", "3"), api.ErrStale, 0)
	wantNotJoined(t, listed("a", "1", ""), listed("a", "1", ""), api.ErrStale, 0)
	// ErrStale behind what lies in one another.
	wantNotJoined(t, listed("a", "1", "2", "c", "1", "2"), listed("a/b", "", "2", "c", "1", "3"), api.ErrStale, 1)
	wantNotJoined(t, listed("a", "1", "2"), listed("a/b", "", "2"), api.ErrClash, 1)
	wantNotJoined(t, listed("0", "1", "2", "a/b", "1", "2"), listed("0", "2", "1", "a", "", "2"), api.ErrClash, 1)
	wantNotJoined(t, listed("0", "1", "2", "a/b", "1", "2"), listed("0", "2", "3", "a", "", "2"), api.ErrClash, 2)
}

// P10.4: what is too much, only when it is joined.
func TestJoinMany(t *testing.T) {
	full := many(api.MaxChanges)
	wantNotJoined(t, full, listed("a", "1", "2"), api.ErrLong, -1)
	wantNotJoined(t, listed("a", "1", "2"), full, api.ErrLong, -1)
	wantJoined(t, full[1:], full[:1], full)
	wantJoined(t, full[:1], full[1:], full)
	back, _ := change.Turn(full)
	wantJoined(t, full, back, nil)
	wantJoined(t, full, append(back[1:], listed("a", "1", "2")...), append(full[:1:1], listed("a", "1", "2")...))
	var other []api.Change
	for _, c := range full {
		other = append(other, api.Change{Path: "a" + c.Path, Was: 1})
	}
	wantNotJoined(t, full, other, api.ErrLong, -1)
	// ErrStale ahead of it.
	other[0] = api.Change{Path: full[3].Path, Was: 2}
	wantNotJoined(t, full, other, api.ErrStale, 0)
}

// R3: what is handed in stays, with the room behind its end, and what is answered is new.
func TestListsShareNothing(t *testing.T) {
	room := listed("a", "1", "2", "b", "1", "2", "z", "1", "2")
	l, before := room[:2], slices.Clone(room)
	m := listed("c", "1", "2")
	spoil := func(out []api.Change, f api.Fault) {
		t.Helper()
		if f != (api.Fault{}) || len(out) == 0 {
			t.Fatalf("%v %v", out, f)
		}
		for k := range out[:cap(out)] {
			out[:cap(out)][k] = api.Change{Path: "spoiled"}
		}
		if !slices.Equal(room, before) || !slices.Equal(m, listed("c", "1", "2")) {
			t.Errorf("left %v %v", room, m)
		}
	}
	spoil(change.Turn(l))
	spoil(change.Within(l, ""))
	spoil(change.Within(l, "a"))
	spoil(change.Join(l, nil))
	spoil(change.Join(nil, l))
	spoil(change.Join(l, m))
	spoil(change.Join(m, l))
}
