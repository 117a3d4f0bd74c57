package disk

import (
	"maps"
	"slices"
)

// longestName is how many bytes a name may have.
const longestName = 32

// directory is which file has which name.
type directory map[string]*file

// change is one of a directory: a file, the one that was made or else the one
// named from, is named to. As no name is empty, an empty from says that the file
// had none, an empty to that it has none any more.
type change struct {
	made     *file
	from, to string
}

func (c change) apply(d directory) {
	f := c.made
	if f == nil {
		f = d[c.from]
	}
	// Ahead of the new name, which may be the same.
	delete(d, c.from)
	if c.to != "" {
		d[c.to] = f
	}
}

// names is what the files are named, rising.
func (d directory) names() []string {
	return slices.Sorted(maps.Keys(d))
}

func isName(s string) bool {
	if len(s) < 1 || len(s) > longestName {
		return false
	}
	for i := range len(s) {
		if !isOfName(s[i]) {
			return false
		}
	}
	return true
}

// isOfName tells whether a name may have c.
func isOfName(c byte) bool {
	return 'a' <= c && c <= 'z' || 'A' <= c && c <= 'Z' || '0' <= c && c <= '9' || c == '.'
}
