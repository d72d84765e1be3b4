package pathmap

import (
	"iter"
	"strings"

	"espalier/api"
	"espalier/name"
)

// A row is names with a stroke between each two, as a path is written, but of however many names and bytes: package name takes none that are too long.

// beginnings tells the rows that a row's first names are, without it itself: from that of no names on.
func beginnings(row string) iter.Seq[string] {
	return func(yield func(string) bool) {
		if row == "" || !yield("") {
			return
		}
		for at, r := range row {
			if r == '/' && !yield(row[:at]) {
				return
			}
		}
	}
}

// rest is the names of a row behind those of another one, and whether it begins with these.
func rest(row, within string) (string, bool) {
	switch within {
	case "":
		return row, true
	case row:
		return "", true
	}
	for at, r := range within {
		if !strings.HasPrefix(row[at:], string(r)) { // what stands ahead is alike, so that the row has that place
			return "", false
		}
	}
	if left, lies := strings.CutPrefix(row[len(within):], "/"); lies {
		return left, true
	}
	return "", false
}

// join puts two rows together; beside the root there is no stroke to write.
func join(row, behind string) string {
	if row == "" || behind == "" {
		return row + behind
	}
	return row + "/" + behind
}

// isPath says whether a text is a path; of a row, whether it is not too long.
func isPath(text string) bool {
	return name.Path(text).Err == api.OK
}
