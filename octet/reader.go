package octet

import "espalier/api"

// progress is what a Reader has read so far, and why it reads no further.
type progress struct {
	at  int
	err api.Errno
}

// settle ends a read: all of what it took is read, or nothing is and its reason stays.
func (p *progress) settle(n int, err api.Errno) bool {
	if err != api.OK {
		p.err = err
		return false
	}
	p.at += n
	return true
}

// Reader reads bytes from their beginning on; its first error sticks.
type Reader struct {
	progress
	all []byte
}

// Read answers a Reader of the bytes that b has now.
func Read(b []byte) *Reader {
	return &Reader{all: withRoom(b, 0)}
}

// Byte reads the next byte.
func (r *Reader) Byte() byte {
	piece, ok := r.take(1)
	if !ok {
		return 0
	}
	return piece[0]
}

// Uint reads a number in its short form.
func (r *Reader) Uint() uint64 {
	if r.stuck() {
		return 0
	}
	x, n, err := shortForm(r.rest())
	if !r.settle(n, err) {
		return 0
	}
	return x
}

// Word reads a number in its wide form.
func (r *Reader) Word() uint64 {
	piece, ok := r.take(wideSize)
	if !ok {
		return 0
	}
	return wideForm(piece)
}

// Text reads a text of at most that many bytes.
func (r *Reader) Text(most int) string {
	if r.stuck() {
		return ""
	}
	rest := r.rest()
	from, to, err := textBounds(rest, most)
	if !r.settle(to, err) {
		return ""
	}
	return string(rest[from:to])
}

// Raw reads the next n bytes.
func (r *Reader) Raw(n int) []byte {
	piece, ok := r.take(n)
	if !ok {
		return nil
	}
	return withRoom(piece, 0)
}

// Left answers how many bytes are not read.
func (r *Reader) Left() int {
	if r == nil {
		return 0
	}
	return len(r.rest())
}

// Err answers the reason of the first read that was refused.
func (r *Reader) Err() api.Errno {
	if r == nil {
		return api.ErrNil
	}
	return r.err
}

// End answers what hinders that all was read, and rightly.
func (r *Reader) End() api.Errno {
	if err := r.Err(); err != api.OK {
		return err
	}
	if r.Left() > 0 {
		return api.ErrMore
	}
	return api.OK
}

func (r *Reader) stuck() bool {
	return r == nil || r.err != api.OK
}

func (r *Reader) rest() []byte {
	return r.all[r.at:]
}

// take reads n bytes and answers them in the Reader's own memory: none of it may be handed out.
func (r *Reader) take(n int) ([]byte, bool) {
	if r.stuck() {
		return nil, false
	}
	rest := r.rest()
	switch {
	case n < 0:
		return nil, r.settle(0, api.ErrArg)
	case n > len(rest):
		return nil, r.settle(0, api.ErrShort)
	}
	return rest[:n], r.settle(n, api.OK)
}

// textBounds answers where the text begins, and ends, whose form b begins with.
func textBounds(b []byte, most int) (int, int, api.Errno) {
	if most < 0 {
		return 0, 0, api.ErrArg
	}
	size, from, err := shortForm(b)
	switch {
	case err != api.OK:
		return 0, 0, err
	case size > uint64(most):
		return 0, 0, api.ErrLong
	case size > uint64(len(b)-from):
		return 0, 0, api.ErrShort
	}
	return from, from + int(size), api.OK
}
