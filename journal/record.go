package journal

import (
	"espalier/api"
	"espalier/octet"
)

// form answers a record's bytes.
func form(payload []byte) []byte {
	return octet.PutWord(octet.PutText(nil, string(payload)), octet.Hash(payload))
}

// read takes up the records of a file: its size is that of these, and what the file has more is a beginning of a record.
func (j *Journal) read(file []byte) api.Errno {
	r := octet.Read(file)
records:
	for r.Left() > 0 {
		payload := []byte(r.Text(api.MaxRecord))
		sum := r.Word()
		switch err := r.Err(); {
		case err == api.ErrShort:
			// A cut leaves bytes that end too early, and no others: all else is wrong.
			break records
		case err != api.OK, sum != octet.Hash(payload):
			return api.ErrBroken
		}
		j.kept.add(payload)
		j.size = len(file) - r.Left()
	}
	return api.OK
}
