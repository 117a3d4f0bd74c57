package disk

import (
	"bytes"
	"maps"

	"stillroom/api"
)

// tornSize is how many bytes of a torn sector are as they are now.
const tornSize = api.Sector / 2

// fate is what becomes of the dirty sectors in a crash.
type fate struct {
	keep []bool
	torn int
	seen int // how many were asked for
}

// Crash is the disk that a crash leaves, with n of the changes that wait.
func (f *FS) Crash(n int, keep []bool, torn int) *FS {
	if f == nil {
		return nil
	}
	left := maps.Clone(f.synced)
	for _, c := range f.waiting[:min(max(n, 0), len(f.waiting))] {
		c.apply(left)
	}
	d := New(f.room)
	sectors := &fate{keep: keep, torn: torn}
	for _, name := range left.names() {
		d.now[name] = newFile(sectors.leave(left[name]))
	}
	d.synced = maps.Clone(d.now)
	return d
}

// leave is the bytes that are left of a file.
func (t *fate) leave(f *file) []byte {
	b := bytes.Clone(f.synced)
	for _, s := range f.dirtySectors() {
		b = laid(b, s*api.Sector, f.first(s, t.next()))
	}
	return b
}

// next is how many first bytes of the next dirty sector are as they are now.
func (t *fate) next() int {
	i := t.seen
	t.seen++
	switch {
	case i == t.torn:
		return tornSize
	case i < len(t.keep) && t.keep[i]:
		return api.Sector
	}
	return 0
}
