package name

import (
	"iter"
	"strings"

	"espalier/api"
)

// Split: P4.2.
func Split(path string) ([]string, api.Errno) {
	if spot := Path(path); spot.Err != api.OK {
		return nil, spot.Err
	}
	var names []string
	for _, name := range pieces(path) {
		names = append(names, name)
	}
	return names, api.OK
}

// Make: P4.2.
func Make(names ...string) (string, api.Errno) {
	for _, name := range names {
		if spot := Check(name); spot.Err != api.OK {
			return "", spot.Err
		}
	}
	if len(names) > api.MaxDepth {
		return "", api.ErrLong
	}
	path := strings.Join(names, "/")
	if len(path) > api.MaxPath {
		return "", api.ErrLong
	}
	return path, api.OK
}

// Names: P4.2.
func Names(path string) iter.Seq2[int, string] {
	return func(yield func(int, string) bool) {
		if !isPath(path) {
			return
		}
		number := 0
		for _, name := range pieces(path) {
			if !yield(number, name) {
				return
			}
			number++
		}
	}
}

// Depth: P4.2.
func Depth(path string) int {
	if !isPath(path) {
		return -1
	}
	return count(path)
}

// count is how many names a path has.
func count(path string) int {
	n := 0
	for range pieces(path) {
		n++
	}
	return n
}

// Join: P4.3.
func Join(path, rest string) (string, api.Errno) {
	if err := firstErr(path, rest); err != api.OK {
		return "", err
	}
	return join(path, rest)
}

// firstErr is what is wrong with the first of some texts that is no path.
func firstErr(paths ...string) api.Errno {
	for _, path := range paths {
		if spot := Path(path); spot.Err != api.OK {
			return spot.Err
		}
	}
	return api.OK
}

// join puts two paths together; beside the root, which has no names, there is no stroke to write.
func join(path, rest string) (string, api.Errno) {
	switch {
	case path == "":
		return rest, api.OK
	case rest == "":
		return path, api.OK
	case count(path)+count(rest) > api.MaxDepth, len(path)+1+len(rest) > api.MaxPath:
		return "", api.ErrLong
	}
	return path + "/" + rest, api.OK
}

// Dir: P4.3.
func Dir(path string) (string, string, api.Errno) {
	if spot := Path(path); spot.Err != api.OK {
		return "", "", spot.Err
	}
	if path == "" {
		return "", "", api.ErrPath
	}
	last := 0
	for at := range pieces(path) {
		last = at
	}
	return strings.TrimSuffix(path[:last], "/"), path[last:], api.OK
}
