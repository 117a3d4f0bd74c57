package disk

import (
	"fmt"
	"math/rand"
	"slices"
	"strings"
	"testing"

	"stillroom/api"
)

// The disk is held against a model that is slower and plainer: it keeps each
// byte's own state, and the whole directory behind each change.

// modelByte is one byte of a file.
type modelByte struct {
	now      byte
	synced   byte
	isSynced bool // it was there at the last Sync
	written  bool // since then
}

type modelFile struct{ bytes []modelByte }

type modelDisk struct {
	room   int
	states []map[string]*modelFile // the first one was synced, the last one is now
	fail   []bool                  // of the next calls
	calls  int
	reads  int
}

func newModel(room int) *modelDisk {
	return &modelDisk{room: room, states: []map[string]*modelFile{{}}}
}

func (m *modelDisk) now() map[string]*modelFile { return m.states[len(m.states)-1] }

// next is a new state, which is as the last one.
func (m *modelDisk) next() map[string]*modelFile {
	state := map[string]*modelFile{}
	for name, file := range m.now() {
		state[name] = file
	}
	m.states = append(m.states, state)
	return state
}

func (m *modelDisk) fails() bool {
	m.calls++
	if len(m.fail) == 0 {
		return false
	}
	fails := m.fail[0]
	m.fail = m.fail[1:]
	return fails
}

func (m *modelDisk) failAt(n int) {
	m.fail = nil
	if n >= 0 {
		m.fail = make([]bool, n+1)
		m.fail[n] = true
	}
}

func modelName(s string) bool {
	return s != "" && len(s) <= 32 && !strings.ContainsFunc(s, func(r rune) bool { return !isLetterDigitPoint(int(r)) })
}

func (m *modelDisk) used() int {
	n := 0
	for _, file := range m.now() {
		n += len(file.bytes)
	}
	return n
}

func (m *modelDisk) create(name string) api.Errno {
	_, there := m.now()[name]
	switch {
	case m.fails():
		return api.ErrIO
	case !modelName(name):
		return api.ErrForm
	case !there && len(m.now()) == 400:
		return api.ErrFull
	}
	m.next()[name] = &modelFile{}
	return api.OK
}

func (m *modelDisk) write(name string, at int, b []byte) api.Errno {
	file, there := m.now()[name]
	switch {
	case m.fails():
		return api.ErrIO
	case !there:
		return api.ErrNotFound
	case at < 0 || at > len(file.bytes):
		return api.ErrRange
	case at+len(b) > len(file.bytes) && m.used()-len(file.bytes)+at+len(b) > m.room:
		return api.ErrFull
	}
	for i, c := range b {
		if at+i == len(file.bytes) {
			file.bytes = append(file.bytes, modelByte{})
		}
		file.bytes[at+i].now, file.bytes[at+i].written = c, true
	}
	return api.OK
}

func (m *modelDisk) sync(name string) api.Errno {
	file, there := m.now()[name]
	switch {
	case m.fails():
		return api.ErrIO
	case !there:
		return api.ErrNotFound
	}
	for i, c := range file.bytes {
		file.bytes[i] = modelByte{now: c.now, synced: c.now, isSynced: true}
	}
	return api.OK
}

func (m *modelDisk) syncDir() api.Errno {
	if m.fails() {
		return api.ErrIO
	}
	m.states = m.states[len(m.states)-1:]
	return api.OK
}

func (m *modelDisk) rename(from, to string) api.Errno {
	file, there := m.now()[from]
	switch {
	case m.fails():
		return api.ErrIO
	case !there:
		return api.ErrNotFound
	case !modelName(to):
		return api.ErrForm
	}
	state := m.next()
	if from != to {
		state[to] = file
		delete(state, from)
	}
	return api.OK
}

func (m *modelDisk) remove(name string) api.Errno {
	_, there := m.now()[name]
	switch {
	case m.fails():
		return api.ErrIO
	case !there:
		return api.ErrNotFound
	}
	delete(m.next(), name)
	return api.OK
}

// isDirty tells whether a byte of the sector was written.
func (file *modelFile) isDirty(sector int) bool {
	for i := sector * 64; i < min(sector*64+64, len(file.bytes)); i++ {
		if file.bytes[i].written {
			return true
		}
	}
	return false
}

func (m *modelDisk) dirty() int {
	n := 0
	for _, file := range m.now() {
		for sector := range len(file.bytes)/64 + 1 {
			if file.isDirty(sector) {
				n++
			}
		}
	}
	return n
}

func modelNames(state map[string]*modelFile) []string {
	names := []string{}
	for name := range state {
		names = append(names, name)
	}
	slices.Sort(names)
	return names
}

// crash asks each byte whether it is left, and as what.
func (m *modelDisk) crash(n int, keep []bool, torn int) *modelDisk {
	left := newModel(m.room)
	state := m.states[min(max(n, 0), len(m.states)-1)]
	count := -1
	for _, name := range modelNames(state) {
		file, out := state[name], &modelFile{}
		for i, c := range file.bytes {
			dirty := file.isDirty(i / 64)
			if dirty && i%64 == 0 {
				count++
			}
			asNow := dirty && count < len(keep) && keep[count]
			if dirty && count == torn {
				asNow = i%64 < 32
			}
			if !asNow && !c.isSynced {
				continue
			}
			for len(out.bytes) <= i {
				out.bytes = append(out.bytes, modelByte{isSynced: true})
			}
			if !asNow {
				c.now = c.synced
			}
			out.bytes[i] = modelByte{now: c.now, synced: c.now, isSynced: true}
		}
		left.now()[name] = out
	}
	return left
}

// hold compares all that the two tell.
func hold(t *testing.T, what string, f *FS, m *modelDisk) {
	t.Helper()
	names := modelNames(m.now())
	if got := f.Names(); !slices.Equal(got, names) {
		t.Fatalf("P5.1: %s: Names: %q, not %q", what, got, names)
	}
	for _, name := range names {
		wanted := []byte{}
		for _, c := range m.now()[name].bytes {
			wanted = append(wanted, c.now)
		}
		m.reads += len(wanted)
		if got := textOf(t, f, name); got != string(wanted) {
			t.Fatalf("P5.3: %s: %s: %q, not %q", what, name, got, wanted)
		}
	}
	got := [4]int{f.Used(), f.Dirty(), f.Calls(), f.Reads()}
	if wanted := [4]int{m.used(), m.dirty(), m.calls, m.reads}; got != wanted {
		t.Fatalf("P5.1 to P5.3: %s: Used, Dirty, Calls, Reads: %v, not %v", what, got, wanted)
	}
}

// player makes calls by chance, of the disk and of the model.
type player struct {
	*rand.Rand
	f *FS
	m *modelDisk
}

// name is one of a few names, now and then a wrong one.
func (p *player) name() string {
	if p.Intn(30) == 0 {
		return []string{"", "a b", "none/", longName + "z"}[p.Intn(4)]
	}
	return []string{"a", "b", "B", "b.1", longName}[p.Intn(5)]
}

func (p *player) bytes() []byte {
	n := p.Intn(20)
	switch p.Intn(4) {
	case 0:
		n = p.Intn(400)
	case 1:
		n = 32 * p.Intn(5)
	}
	b := make([]byte, n)
	p.Read(b)
	return b
}

// place is one in a file, or near its end, or far off.
func (p *player) place(name string) int {
	size := p.f.Size(name)
	switch p.Intn(5) {
	case 0:
		return size - 3 + p.Intn(6)
	case 1:
		return 32 * p.Intn(8)
	case 2:
		return size
	}
	return p.Intn(max(size, 0) + 1)
}

func (p *player) fate() (int, []bool, int) {
	keep := make([]bool, p.Intn(12))
	for i := range keep {
		keep[i] = p.Intn(2) == 0
	}
	return p.Intn(len(p.m.states)+3) - 1, keep, p.Intn(12) - 2
}

// step is one call of each, and what it was.
func (p *player) step() (string, api.Errno, api.Errno) {
	name, other := p.name(), p.name()
	switch p.Intn(16) {
	case 0:
		return "Create " + name, p.f.Create(name), p.m.create(name)
	case 1, 2, 3:
		return "Sync " + name, p.f.Sync(name), p.m.sync(name)
	case 4:
		return "SyncDir", p.f.SyncDir(), p.m.syncDir()
	case 5:
		return "Rename " + name + " " + other, p.f.Rename(name, other), p.m.rename(name, other)
	case 6:
		return "Remove " + name, p.f.Remove(name), p.m.remove(name)
	case 7:
		n := p.Intn(8) - 2
		p.f.Fail(n)
		p.m.failAt(n)
		return fmt.Sprint("Fail ", n), api.OK, api.OK
	case 8:
		n := p.Intn(4000)
		p.f.Room(n)
		p.m.room = n
		return fmt.Sprint("Room ", n), api.OK, api.OK
	}
	at, b := p.place(name), p.bytes()
	return fmt.Sprintf("Write %s %d %d", name, at, len(b)), p.f.Write(name, at, b), p.m.write(name, at, b)
}

func TestAsTheModel(t *testing.T) {
	for seed := range 150 {
		p := &player{rand.New(rand.NewSource(int64(seed))), New(3000), newModel(3000)}
		for i := range 300 {
			what, got, wanted := p.step()
			what = fmt.Sprintf("seed %d, call %d, %s", seed, i, what)
			if got != wanted {
				t.Fatalf("P5.1: %s: error %d, not %d", what, got, wanted)
			}
			hold(t, what, p.f, p.m)
			n, keep, torn := p.fate()
			what = fmt.Sprintf("%s, Crash(%d, %v, %d)", what, n, keep, torn)
			f, m := p.f.Crash(n, keep, torn), p.m.crash(n, keep, torn)
			hold(t, what, f, m)
			hold(t, what+": the disk itself", p.f, p.m)
			if p.Intn(40) == 0 {
				p.f, p.m = f, m
			}
		}
	}
}
