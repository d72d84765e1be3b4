package disk

import "espalier/api"

// raw is the one way by which files change: a write is done whole and counted, or not at all.
func (d *Disk) raw(write func()) api.Errno {
	if d.cutting {
		if d.left == 0 {
			return api.ErrCut
		}
		d.left--
	}
	d.writes++
	write()
	return api.OK
}

// Writes: P2.5.
func (d *Disk) Writes() int {
	if d == nil {
		return 0
	}
	return d.writes
}

// Cut: P2.5.
func (d *Disk) Cut(n int) api.Errno {
	if d == nil {
		return api.ErrNil
	}
	if n < 0 {
		return api.ErrArg
	}
	d.cutting, d.left = true, n
	return api.OK
}

// Cutting: P2.5.
func (d *Disk) Cutting() (int, bool) {
	if d == nil {
		return 0, false
	}
	return d.left, d.cutting
}

// Mend: P2.5.
func (d *Disk) Mend() api.Errno {
	if d == nil {
		return api.ErrNil
	}
	d.cutting, d.left = false, 0
	return api.OK
}
