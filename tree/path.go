package tree

import (
	"strings"

	"selvedge/api"
	"selvedge/layout"
)

const longest = api.MaxDepth * (1 + api.MaxName) // bytes of a path

// cut are a path's names; false: it is none.
func cut(path string) ([]string, bool) {
	if path == "/" {
		return nil, true
	}
	if len(path) > longest {
		return nil, false
	}
	var names []string
	from := 0 // where a name begins
	for i, r := range path {
		if r == '/' {
			names = append(names, path[from:i])
			from = i + 1
		}
	}
	names = append(names, path[from:])
	// Ahead of the first / there is nothing.
	if names[0] != "" || len(names) < 2 || len(names) > 1+api.MaxDepth {
		return nil, false
	}
	names = names[1:]
	for _, name := range names {
		if !layout.Name(name) {
			return nil, false
		}
	}
	return names, true
}

// leads: is it a path that leads to something but the root?
func leads(path string) bool {
	names, ok := cut(path)
	return ok && len(names) > 0
}

// last cuts a path that leads to something but the root: the path ahead of its last name, and that.
func last(path string) (above, name string) {
	i := strings.LastIndexByte(path, '/')
	return path[:max(i, 1)], path[i+1:]
}
