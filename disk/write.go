package disk

import (
	"bytes"

	"espalier/api"
)

// Append: P2.3.
func (d *Disk) Append(name string, b []byte) api.Errno {
	if d == nil {
		return api.ErrNil
	}
	if !mayBeName(name) {
		return api.ErrArg
	}
	file, there := d.files[name]
	if len(b) > api.MaxFile-len(file) || !there && len(d.files) >= api.MaxFiles {
		return api.ErrLong
	}
	if there && len(b) == 0 {
		return api.OK
	}
	return d.appendPieces(name, b)
}

// appendPieces does one raw write even of no bytes: that one makes the file.
func (d *Disk) appendPieces(name string, b []byte) (err api.Errno) {
pieces:
	for {
		piece := b[:min(len(b), api.Raw)]
		b = b[len(piece):]
		err = d.raw(func() { d.files[name] = append(d.files[name], piece...) })
		switch {
		case err != api.OK, len(b) == 0:
			break pieces
		}
	}
	return err
}

// Truncate: P2.4.
func (d *Disk) Truncate(name string, n int) api.Errno {
	file, err := d.file(name)
	switch {
	case err != api.OK:
		return err
	case n < 0 || n > len(file):
		return api.ErrArg
	case n == len(file):
		return api.OK
	}
	// A clone, so that the bytes that were cut off are not kept behind its end.
	return d.raw(func() { d.files[name] = bytes.Clone(file[:n]) })
}

// Rename: P2.4.
func (d *Disk) Rename(from, to string) api.Errno {
	if d == nil {
		return api.ErrNil
	}
	if !mayBeName(to) {
		return api.ErrArg
	}
	file, err := d.file(from)
	if err != api.OK || from == to {
		return err
	}
	return d.raw(func() {
		delete(d.files, from)
		d.files[to] = file
	})
}

// Remove: P2.4.
func (d *Disk) Remove(name string) api.Errno {
	if _, err := d.file(name); err != api.OK {
		return err
	}
	return d.raw(func() { delete(d.files, name) })
}
