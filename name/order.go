package name

import "cmp"

// Compare: P4.5.
func Compare(a, b string) int {
	one, two := isPath(a), isPath(b)
	switch {
	case one && two:
		return comparePaths(a, b)
	case one:
		return -1
	case two:
		return 1
	}
	return cmp.Compare(a, b)
}

// comparePaths goes by bytes instead of by names: where two paths first differ, a stroke, or the end, of one means that its name ends there, as a beginning of the other one's name, or that the other one lies in it.
func comparePaths(a, b string) int {
	for k := range min(len(a), len(b)) {
		if a[k] != b[k] {
			return cmp.Compare(weight(a[k]), weight(b[k]))
		}
	}
	return cmp.Compare(len(a), len(b))
}

// weight has a stroke stand ahead of all bytes of names, none of which is 0.
func weight(b byte) byte {
	if b == '/' {
		return 0
	}
	return b
}
