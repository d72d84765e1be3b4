package journal

// payloads are the payloads of records, by their numbers: slices of one array, in which they stand one behind the other.
type payloads struct {
	array []byte
	used  int
	list  [][]byte
}

// add puts a copy of b behind the others.
func (p *payloads) add(b []byte) {
	end := p.used + len(b)
	if end > len(p.array) {
		// Twice of what is needed, so that many that are added one by one are moved but a few times.
		p.move(2 * end)
	}
	copy(p.array[p.used:], b)
	p.list = append(p.list, p.array[p.used:end])
	p.used = end
}

// move takes another array, and lets no slice hold on to the one that was.
func (p *payloads) move(size int) {
	array := make([]byte, size)
	copy(array, p.array[:p.used])
	rest := array
	for k, b := range p.list {
		p.list[k], rest = rest[:len(b)], rest[len(b):]
	}
	p.array = array
}
