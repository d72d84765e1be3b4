package change

import (
	"espalier/api"
	"espalier/name"
)

// Check: P10.2.
func Check(l []api.Change) api.Fault {
	if len(l) > api.MaxChanges {
		return api.Fault{Err: api.ErrLong, At: -1}
	}
	var around []api.Change // those ahead in whose paths the one ahead lies, and it itself
	for i, c := range l {
		if !mayBe(c) || i > 0 && name.Compare(l[i-1].Path, c.Path) >= 0 {
			return api.Fault{Err: api.ErrArg, At: i}
		}
		// All that lies in one path stands together, so that a path in which this one does not lie is done with.
		for len(around) > 0 && !name.In(c.Path, around[len(around)-1].Path) {
			around = around[:len(around)-1]
		}
		for _, outer := range around {
			if !mayHold(outer, c) {
				return api.Fault{Err: api.ErrClash, At: i}
			}
		}
		around = append(around, c)
	}
	return api.Fault{}
}

// mayBe says whether a change by itself may be.
func mayBe(c api.Change) bool {
	return c.Path != "" && name.Path(c.Path).Err == api.OK && c.Was != c.Now
}

// mayHold says whether a change may stand beside one whose path lies in its own: at no time both are files.
func mayHold(outer, inner api.Change) bool {
	return outer.Was == 0 && inner.Now == 0 || outer.Now == 0 && inner.Was == 0
}

// Turn: P10.4.
func Turn(l []api.Change) ([]api.Change, api.Fault) {
	if f := Check(l); f != (api.Fault{}) {
		return nil, f
	}
	var turned []api.Change
	for _, c := range l {
		turned = append(turned, api.Change{Path: c.Path, Was: c.Now, Now: c.Was})
	}
	return turned, api.Fault{}
}

// Within: P10.4.
func Within(l []api.Change, path string) ([]api.Change, api.Fault) {
	if f := Check(l); f != (api.Fault{}) {
		return nil, f
	}
	if name.Path(path).Err != api.OK {
		return nil, api.Fault{Err: api.ErrArg, At: -1}
	}
	var inner []api.Change
	for _, c := range l {
		if name.In(c.Path, path) {
			inner = append(inner, c)
		}
	}
	return inner, api.Fault{}
}

// Join: P10.4.
func Join(l, m []api.Change) ([]api.Change, api.Fault) {
	if f := Check(l); f != (api.Fault{}) {
		return nil, f
	}
	if f := Check(m); f != (api.Fault{}) {
		return nil, f
	}
	list, f := joined(l, m)
	if f == (api.Fault{}) {
		f = Check(list)
	}
	if f != (api.Fault{}) {
		return nil, f
	}
	return list, api.Fault{}
}

// joined is the changes of l and then of m, each of which may be, as one list, whose changes may stand in each other's way.
func joined(l, m []api.Change) ([]api.Change, api.Fault) {
	var list []api.Change
	i, j := 0, 0
sides:
	for i < len(l) && j < len(m) {
		one, other := l[i], m[j]
		switch name.Compare(one.Path, other.Path) {
		case -1:
			list = append(list, one)
			i++
			continue sides
		case 1:
			list = append(list, other)
			j++
			continue sides
		}
		if other.Was != one.Now {
			return nil, api.Fault{Err: api.ErrStale, At: j}
		}
		i++
		j++
		if one.Was == other.Now {
			continue sides // there and back
		}
		list = append(list, api.Change{Path: one.Path, Was: one.Was, Now: other.Now})
	}
	list = append(list, l[i:]...)
	return append(list, m[j:]...), api.Fault{}
}
