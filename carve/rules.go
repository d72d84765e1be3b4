package carve

import (
	"iter"

	"espalier/api"
	"espalier/disk"
	"espalier/journal"
	"espalier/octet"
	"espalier/pathmap"
)

// front is what the name of a rules' file begins with.
const front = "rules-"

// rulesFile is the name of the rules' file of a key.
func rulesFile(key api.Id) string {
	return front + octet.Hex(uint64(key))
}

// keyOf is the key whose rules' file has that name; 0, if it is no rules' file's.
func keyOf(file string) api.Id {
	begins := min(len(file), len(front))
	switch file[:begins] {
	case front:
		key, _ := octet.Unhex(file[begins:]) // 0 beside an error, and no Map has that key
		return api.Id(key)
	}
	return 0
}

// holdRules has a Map's rules' file say its Text, or answers why it does not.
func (o opened) holdRules(m *pathmap.Map) api.Errno {
	j, err := journal.Open(o.disk, rulesFile(m.Key()))
	if err != api.OK {
		return err
	}
	if j.Len() > 1 {
		return api.ErrBroken
	}
	text := m.Text()
	switch record, err := j.Record(0); {
	case err == api.ErrNone:
		return j.Append([]byte(text))
	case string(record) != text:
		return api.ErrCollision
	}
	return api.OK
}

// Texts: P19.5.
func Texts(d *disk.Disk) iter.Seq2[api.Id, string] {
	return func(yield func(api.Id, string) bool) {
		// A copy, as to open a journal takes away what a cut left of a record.
		read := d.Copy()
		// Names of rules' files rise as their keys do.
		for _, file := range read.Names() {
			key := keyOf(file)
			if key == 0 {
				continue
			}
			text, there := firstRecord(read, file)
			if there && !yield(key, text) {
				return
			}
		}
	}
}

// firstRecord is the first record of a file, and whether there is one; what is no journal has none.
func firstRecord(d *disk.Disk, file string) (string, bool) {
	j, err := journal.Open(d, file)
	if err != api.OK {
		return "", false
	}
	record, err := j.Record(0)
	return string(record), err == api.OK
}
