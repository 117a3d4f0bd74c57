package disk

import (
	"bytes"
	"maps"
	"slices"

	"stillroom/api"
)

// file is a file's bytes as they are now and as they were synced. It is never
// shorter now than it was synced, and what is beyond that is dirty: clean
// sectors are the same in both.
type file struct {
	now    []byte
	synced []byte
	dirty  map[int]struct{} // by numbers of sectors
}

// newFile is a file of these bytes, all synced.
func newFile(b []byte) *file {
	return &file{now: b, synced: bytes.Clone(b), dirty: map[int]struct{}{}}
}

func (f *file) write(at int, b []byte) {
	if len(b) == 0 {
		return
	}
	f.now = laid(f.now, at, b)
	for s := at / api.Sector; s <= (at+len(b)-1)/api.Sector; s++ {
		f.dirty[s] = struct{}{}
	}
}

func (f *file) sync() {
	for s := range f.dirty {
		f.synced = laid(f.synced, s*api.Sector, f.first(s, api.Sector))
	}
	// A new one, since to clear one that was big once takes as long each time.
	f.dirty = map[int]struct{}{}
}

// dirtySectors are the numbers of the dirty sectors, rising.
func (f *file) dirtySectors() []int {
	return slices.Sorted(maps.Keys(f.dirty))
}

// first is the first n bytes of a sector as they are now, or as many as there
// are.
func (f *file) first(sector, n int) []byte {
	at := sector * api.Sector
	return f.now[at:min(at+n, len(f.now))]
}

// laid is b with part from at on: longer if need be, with noughts between.
func laid(b []byte, at int, part []byte) []byte {
	if len(part) == 0 {
		return b
	}
	if grown := at + len(part) - len(b); grown > 0 {
		b = append(b, make([]byte, grown)...)
	}
	copy(b[at:], part)
	return b
}
