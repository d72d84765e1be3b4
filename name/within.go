package name

import (
	"strings"

	"espalier/api"
)

// In: P4.4.
func In(path, within string) bool {
	_, lies := Rest(path, within)
	return lies
}

// Rest: P4.4.
func Rest(path, within string) (string, bool) {
	if !isPath(path) || !isPath(within) {
		return "", false
	}
	return rest(path, within)
}

// rest is Rest of what are paths: the stroke keeps "ab" from lying in "a".
func rest(path, within string) (string, bool) {
	switch within {
	case "":
		return path, true
	case path:
		return "", true
	}
	if left, lies := strings.CutPrefix(path, within+"/"); lies {
		return left, true
	}
	return "", false
}

// Move: P4.4.
func Move(path, from, to string) (string, api.Errno) {
	if err := firstErr(path, from, to); err != api.OK {
		return "", err
	}
	left, lies := rest(path, from)
	if !lies {
		return "", api.ErrPath
	}
	return join(to, left)
}

// Common: P4.5.
func Common(a, b string) string {
	if !isPath(a) || !isPath(b) {
		return ""
	}
	common := ""
	for at, name := range pieces(a) {
		longer := a[:at+len(name)]
		if _, lies := rest(b, longer); !lies {
			break
		}
		common = longer
	}
	return common
}
