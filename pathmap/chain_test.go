package pathmap_test

import (
	"fmt"
	"slices"
	"strings"
	"testing"

	"espalier/api"
	"espalier/pathmap"
)

// wantChain wants the rules of two Maps, one behind the other.
func wantChain(t *testing.T, a, b *pathmap.Map, asked ...api.Rule) {
	t.Helper()
	c, err := pathmap.Compose(a, b)
	if err != api.OK {
		t.Errorf("Compose of %s and %s: %d", told(a.Rules()), told(b.Rules()), err)
		return
	}
	wantRules(t, "Compose of "+told(a.Rules())+"and "+told(b.Rules()), c.Rules(), asked...)
}

func wantChainLong(t *testing.T, a, b *pathmap.Map) {
	t.Helper()
	if c, err := pathmap.Compose(a, b); c != nil || err != api.ErrLong {
		t.Errorf("Compose of %s and %s: %v, %d", told(a.Rules()), told(b.Rules()), c != nil, err)
	}
}

// The chapter's rows of Inverse and Compose.
func TestExamplesChain(t *testing.T) {
	m := chapter(t)
	wantText(t, m.Inverse(), "move man docs/api", "keep src", "drop src/old", "keep src/old/x")
	wantChain(t, m, mapOf(t, move("man", "x")), move("docs/api", "x"))
	wantChain(t, pathmap.Trivial(), m, m.Rules()...)
	wantChain(t, m, pathmap.Trivial(), m.Rules()...)
}

// P14.5: moves go back, and what is dropped is dropped where its image would be.
func TestInverse(t *testing.T) {
	for _, row := range []struct {
		of, back []api.Rule
	}{
		{nil, nil},
		{list(drop("a")), nil},
		{list(keep("")), list(keep(""))},
		{list(move("a", "")), list(move("", "a"))},
		{list(move("", "a/b"), drop("c")), list(move("a/b", ""), drop("a/b/c"))},
		{list(move("a", "b"), move("b", "a")), list(move("a", "b"), move("b", "a"))},
		{list(move("b", "y"), drop("b/c"), move("b/c/d", "y/c/d"), drop("b/c/d/e"), keep("z"), drop("z/z")), list(move("y", "b"), drop("y/c"), move("y/c/d", "b/c/d"), drop("y/c/d/e"), keep("z"), drop("z/z"))},
		{list(move("a", "z"), move("b", "y"), move("c", "x")), list(move("x", "c"), move("y", "b"), move("z", "a"))},
		{list(move("é/é", "è"), drop("é/é/\ufffd")), list(move("è", "é/é"), drop("è/\ufffd"))},
	} {
		m := mapOf(t, row.of...)
		back := m.Inverse()
		wantRules(t, "Inverse of "+told(row.of), back.Rules(), row.back...)
		if !back.Inverse().Same(m) {
			t.Errorf("Inverse of Inverse of %s: %s", told(row.of), told(back.Inverse().Rules()))
		}
	}
}

// P14.5: a drop whose place would be too long is left out; one that just fits stands.
func TestInverseLeftOut(t *testing.T) {
	m := mapOf(t, move("x", row(15)), drop("x/b"), drop("x/c/c"))
	wantRules(t, "Inverse", m.Inverse().Rules(), move(row(15), "x"), drop(row(15)+"/b"))
	far := strings.Repeat(letters(32)+"/", 5) + letters(31) // 196 bytes
	n := mapOf(t, move("", far), drop("abc"), drop("abcd"), drop("é"), drop("éé"))
	wantRules(t, "Inverse", n.Inverse().Rules(), move(far, ""), drop(far+"/abc"), drop(far+"/é"))
	wantSource(t, n, far+"/abc", "", api.ErrNone)
	wantImage(t, n.Inverse(), far+"/abc", "", api.ErrNone)
}

// P14.5: as many rules as may be go back.
func TestInverseLimit(t *testing.T) {
	rules := list(move("", "x"))
	for k := 1; k < api.MaxRules; k++ {
		rules = append(rules, drop(fmt.Sprint("a", k)))
	}
	m := mapOf(t, rules...)
	if back := m.Inverse(); len(back.Rules()) != api.MaxRules || !back.Inverse().Same(m) {
		t.Errorf("Inverse: %s", told(back.Rules()))
	}
}

// P14.6: what each of the two drops and moves.
func TestCompose(t *testing.T) {
	for _, row := range []struct {
		one, two, both []api.Rule
	}{
		{nil, nil, nil},
		{nil, list(keep("")), nil},
		{list(keep("")), nil, nil},
		{list(keep("a")), list(keep("b")), nil},
		{list(move("a", "b")), list(move("b", "c")), list(move("a", "c"))},
		{list(move("a", "b")), list(move("b", "a")), list(keep("a"))},
		{list(move("a", "b"), move("b", "a")), list(move("a", "b"), move("b", "a")), list(keep("a"), keep("b"))},
		{list(move("a", "x/y")), list(move("x", "z")), list(move("a", "z/y"))},
		{list(move("a", "x")), list(move("x/y", "z")), list(move("a/y", "z"))},
		{list(move("a", "x")), list(move("x/y", "z"), keep("x/a")), list(move("a/a", "x/a"), move("a/y", "z"))},
		{list(keep(""), drop("a")), list(keep("a"), keep("b")), list(keep("b"))},
		{list(keep(""), drop("a"), keep("a/b")), list(keep("a"), drop("a/b/c")), list(keep("a/b"), drop("a/b/c"))},
		{list(keep(""), drop("a"), keep("a/b")), list(keep("a"), drop("a/b"), keep("a/b/c")), list(keep("a/b/c"))},
		{list(keep(""), drop("a"), keep("a/b")), list(keep(""), drop("a/b"), keep("a/c")), list(keep(""), drop("a"))},
		{list(keep(""), drop("a")), list(keep(""), drop("a"), keep("a/b")), list(keep(""), drop("a"))},
		{list(keep(""), drop("a/b")), list(keep(""), drop("a")), list(keep(""), drop("a"))},
		{list(move("", "x"), drop("a")), list(move("x", ""), drop("x/b")), list(keep(""), drop("a"), drop("b"))},
		{list(move("", "x")), list(keep("")), list(move("", "x"))},
		{list(move("a", "x/a"), move("b", "x/b")), list(move("x", "")), list(keep("a"), keep("b"))},
	} {
		wantChain(t, mapOf(t, row.one...), mapOf(t, row.two...), row.both...)
	}
}

// P14.6: images on the way may be too long, if what is left is not.
func TestComposeLongBetween(t *testing.T) {
	into := mapOf(t, move("x", row(16)))
	out := mapOf(t, move(row(16), "y"))
	wantChain(t, into, out, move("x", "y"))
	wantImage(t, into, "x/b", "", api.ErrLong)
	both, _ := pathmap.Compose(into, out)
	wantPair(t, both, "x/b", "y/b")
	wantChain(t, mapOf(t, move("x", most)), mapOf(t, move(most, "")), move("x", ""))
	wantChain(t, mapOf(t, move("x", most), drop("x/b")), mapOf(t, move(most, "")), move("x", ""), drop("x/b"))
}

// P14.6: a From, and a To, of at most MaxDepth names and MaxPath bytes.
func TestComposeLongRules(t *testing.T) {
	wantChain(t, mapOf(t, move(row(15), "")), mapOf(t, move("b", "")), move(row(15)+"/b", ""))
	wantChainLong(t, mapOf(t, move(row(16), "")), mapOf(t, move("b", "")))
	wantChainLong(t, mapOf(t, move(row(15), "")), mapOf(t, move("b/c", "b")))
	wantChain(t, mapOf(t, move(row(15), "x")), mapOf(t, keep("x"), drop("x/b")), move(row(15), "x"), drop(row(15)+"/b"))
	wantChainLong(t, mapOf(t, move(row(16), "x")), mapOf(t, keep("x"), drop("x/b")))
	wantChain(t, mapOf(t, move(row(16), "x"), drop("y")), mapOf(t, keep("x"), drop("y/b")), move(row(16), "x"))
	wantChain(t, mapOf(t, move("a", "b/c")), mapOf(t, move("b", row(15))), move("a", row(15)+"/c"))
	wantChainLong(t, mapOf(t, move("a", "b/c")), mapOf(t, move("b", row(16))))
	wantChainLong(t, mapOf(t, keep(row(16))), mapOf(t, move("", "x")))
	wantChain(t, mapOf(t, keep(row(15))), mapOf(t, move("", "x")), move(row(15), "x/"+row(15)))

	far := strings.Repeat(letters(32)+"/", 5) + letters(31) // 196 bytes
	wantChain(t, mapOf(t, move(far, "")), mapOf(t, move("abc", "")), move(far+"/abc", ""))
	wantChainLong(t, mapOf(t, move(far, "")), mapOf(t, move("abcd", "")))
	wantChainLong(t, mapOf(t, move(far, "")), mapOf(t, keep(""), drop("éé")))
	wantChain(t, mapOf(t, move("a", "b/abc")), mapOf(t, move("b", far)), move("a", far+"/abc"))
	wantChainLong(t, mapOf(t, move("a", "b/abcd")), mapOf(t, move("b", far)))
	wantChainLong(t, mapOf(t, keep(most)), mapOf(t, move("", "x")))
}

// P14.6: at most MaxRules rules, of the one form.
func TestComposeLimit(t *testing.T) {
	drops := func(name string, n int) []api.Rule {
		rules := list(keep(""))
		for k := range n {
			rules = append(rules, drop(fmt.Sprintf("%s%02d", name, k)))
		}
		return rules
	}
	one := mapOf(t, drops("a", 32)...)
	wantChain(t, one, mapOf(t, drops("b", 31)...), slices.Concat(drops("a", 32), drops("b", 31)[1:])...)
	wantChainLong(t, one, mapOf(t, drops("b", 32)...))
	wantChainLong(t, mapOf(t, drops("a", 63)...), mapOf(t, drops("b", 63)...))
	full := drops("a", 63)
	wantChain(t, mapOf(t, full...), mapOf(t, full...), full...)
	wantChain(t, mapOf(t, full...), mapOf(t, keep("b"), drop("b/c")), keep("b"), drop("b/c"))
}
