package memo

import (
	"strconv"

	"espalier/api"
	"espalier/octet"
)

const (
	front   = "memo-"
	hexSize = 16 // digits of a key
)

// fileName is the name of a key's run file of that number, or of its journal, if the number is 0.
func fileName(key api.Id, number int) string {
	name := front + octet.Hex(uint64(key))
	if number == 0 {
		return name
	}
	return name + "-" + strconv.Itoa(number)
}

// whose is what fileName makes that name of; the key is 0, if that is no key's.
func whose(name string) (api.Id, int) {
	const size = len(front) + hexSize
	if len(name) < size || name[:len(front)] != front {
		return 0, 0
	}
	key, err := octet.Unhex(name[len(front):size])
	if err != api.OK {
		return 0, 0
	}
	number := 0
	rest := name[size:]
digits:
	for k := range len(rest) {
		switch c := rest[k]; {
		case k == 0 && c == '-' && len(rest) > 1:
			continue digits
		case k == 0, c < '0', c > '9', k == 1 && c == '0':
			return 0, 0
		default:
			// No file's name has room for more digits than a number has.
			number = number*10 + int(c-'0')
		}
	}
	return api.Id(key), number
}
