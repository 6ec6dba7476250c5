package rofs

import (
	"slices"
	"strings"

	"pharos/api"
)

// Label tells whether a text may be a name.
func Label(s string) bool {
	if len(s) < 1 || len(s) > api.MaxFileName || s == "." || s == ".." {
		return false
	}
	for k := range len(s) {
		if s[k] < '!' || s[k] > '~' || s[k] == '/' {
			return false
		}
	}
	return true
}

// names are those of a path (none of the root's), if it is one.
func names(path string) ([]string, bool) {
	rest, is := strings.CutPrefix(path, "/")
	if !is || rest == "" {
		return nil, is
	}
	l := strings.SplitN(rest, "/", api.MaxDepth+1)
	if len(l) > api.MaxDepth || slices.ContainsFunc(l, unnamed) {
		return nil, false
	}
	return l, true
}

// unnamed tells whether a text may not be a name.
func unnamed(s string) bool {
	return !Label(s)
}
