package object

import (
	"bytes"

	"espalier/api"
	"espalier/octet"
)

// instead stands for the hash 0, as an id of 0 is none.
const instead = 1

// Id: P6.3.
func Id(b []byte) api.Id {
	hash := octet.Hash(b)
	if hash == 0 {
		return instead
	}
	return api.Id(hash)
}

// Of: P6.3.
func Of(o api.Object) (api.Id, api.Errno) {
	if err := check(o); err != api.OK {
		return 0, err
	}
	return Id(encode(o)), api.OK
}

// Same: P6.3. It goes by the bytes, as unlike ones may have one id.
func Same(a, b api.Object) bool {
	if check(a) != api.OK || check(b) != api.OK {
		return false
	}
	return bytes.Equal(encode(a), encode(b))
}
