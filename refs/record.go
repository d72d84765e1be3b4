package refs

import (
	"espalier/api"
	"espalier/octet"
)

// encode is the payload of a record that says these changes.
func encode(l []api.Ref) []byte {
	b := octet.PutUint(nil, uint64(len(l)))
	for _, change := range l {
		b = octet.PutText(b, change.Name)
		b = octet.PutWord(b, uint64(change.Id))
	}
	return b
}

// decode is the changes of a record's payload, and whether it is made as encode makes one of at least one change.
func decode(payload []byte) ([]api.Ref, bool) {
	in := octet.Read(payload)
	var l []api.Ref
changes:
	for left := in.Uint(); left > 0; left-- {
		change := api.Ref{Name: in.Text(api.MaxPath), Id: api.Id(in.Word())}
		switch in.Err() {
		case api.OK:
			l = append(l, change)
		default:
			break changes // the number at the beginning may say far more changes than there are bytes
		}
	}
	return l, in.End() == api.OK && len(l) > 0
}
