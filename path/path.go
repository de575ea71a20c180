// Package path is names and paths: see DOC.md, chapter 1.
package path

import (
	"strings"

	"steamer/api"
)

// Name reports whether s may be one name of a path.
// Names are bytes: their lengths count bytes, and no encoding is asked for.
func Name(s string) bool {
	if len(s) < 1 || len(s) > api.MaxName || s == "." || s == ".." {
		return false
	}
	i := 0
next:
	if i == len(s) {
		return true
	}
	if s[i] == '/' || s[i] == 0 {
		return false
	}
	i++
	goto next
}

// May reports whether s is a valid path; "" is the root's.
func May(s string) bool {
	_, ok := split(s)
	return ok
}

// Parts returns the names of a path, none for the root and an invalid path.
func Parts(s string) []string {
	names, _ := split(s)
	return names
}

// Parent returns the path of the directory that s lies in, and whether there is one.
func Parent(s string) (string, bool) {
	last := Last(s)
	if last == "" {
		return "", false
	}
	// A path of one name has no slash before it that could be left out.
	return s[:max(len(s)-len(last)-1, 0)], true
}

// Last returns the last name of a path, "" for the root and an invalid path.
func Last(s string) string {
	names := Parts(s)
	if len(names) == 0 {
		return ""
	}
	return names[len(names)-1]
}

// Join returns the path of the name b in the directory a, and an error.
func Join(a, b string) (string, int) {
	if !May(a) || !Name(b) {
		return "", api.ErrArg
	}
	s := b
	if a != "" {
		s = a + "/" + b
	}
	if !May(s) {
		return "", api.ErrRange
	}
	return s, api.OK
}

// Under reports whether s is top or lies below it, both being valid paths.
func Under(s, top string) bool {
	if !May(s) || !May(top) {
		return false
	}
	// The slash keeps "ab" from lying under "a".
	return top == "" || s == top || strings.HasPrefix(s, top+"/")
}

// Depth returns the number of names of a path, -1 for an invalid one.
func Depth(s string) int {
	names, ok := split(s)
	if !ok {
		return -1
	}
	return len(names)
}

// Less reports whether a stands before b, name by name.
// To compare the whole strings would be wrong: "-" is less than the slash.
func Less(a, b string) bool {
	x, y := Parts(a), Parts(b)
	i := 0
next:
	if i == len(x) || i == len(y) {
		return len(x) < len(y)
	}
	if x[i] != y[i] {
		return x[i] < y[i]
	}
	i++
	goto next
}

// split returns the names of s and true, or nothing and false if s is no valid path.
func split(s string) ([]string, bool) {
	if s == "" {
		return nil, true
	}
	if len(s) > api.MaxPath {
		return nil, false
	}
	var names []string
	at := 0
next:
	end := nameEnd(s, at)
	if len(names) == api.MaxDepth || !Name(s[at:end]) {
		return nil, false
	}
	names = append(names, s[at:end])
	if end == len(s) {
		return names, true
	}
	// A slash at the very end leaves an empty name, which Name refuses.
	at = end + 1
	goto next
}

// nameEnd returns the index of the first slash of s from at on, or the length of s.
func nameEnd(s string, at int) int {
next:
	if at == len(s) || s[at] == '/' {
		return at
	}
	at++
	goto next
}
