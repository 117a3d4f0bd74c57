package slots

import (
	"encoding/binary"
	"fmt"
	"hash/crc32"
	"math/rand"
	"testing"

	"stillroom/api"
	"stillroom/disk"
)

// Files are held against a model that keeps texts and turns, and knows of bytes
// only what the first slot's place and the second's are.

// modelFile is a file that is open.
type modelFile struct {
	text  string
	turn  uint64
	slot  int
	tried uint64
}

// modelOpen is what lies in a file's slots, nil where neither is whole.
func modelOpen(all []byte) *modelFile {
	var found *modelFile
	if len(all) != 8192 {
		return nil
	}
	for slot := 1; slot >= 0; slot-- {
		b := all[slot*4096 : slot*4096+4096]
		turn, length := binary.BigEndian.Uint64(b), int(binary.BigEndian.Uint32(b[8:]))
		if length > 4080 {
			continue
		}
		sum := crc32.New(crc32.MakeTable(crc32.Castagnoli))
		sum.Write(b[:12])
		sum.Write(b[16 : 16+length])
		if sum.Sum32() != binary.BigEndian.Uint32(b[12:]) {
			continue
		}
		if found == nil || turn >= found.turn {
			found = &modelFile{text: string(b[16 : 16+length]), turn: turn, slot: slot, tried: turn}
		}
	}
	return found
}

// save takes text in, where the disk's calls tell what is told here.
func (m *modelFile) save(text string, disk api.Errno) api.Errno {
	switch {
	case len(text) > 4080:
		return api.ErrTooLarge
	case m.tried >= 1<<40:
		return api.ErrRange
	}
	m.tried++
	if disk != api.OK {
		return disk
	}
	m.text, m.turn, m.slot = text, m.tried, 1-m.slot
	return api.OK
}

// player makes calls by chance, of files and of their models.
type player struct {
	*rand.Rand
	t      *testing.T
	f      *disk.FS
	files  map[string]*File
	models map[string]*modelFile
	lasts  map[string]bool // the name and the file's two slots
	fails  int             // the calls ahead of the one that fails, or -1
	seed   int
	step   int
	counts [16]int // of the errors that Save and Create told
}

func (p *player) name() string { return []string{"a", "b", "NEW"}[p.Intn(3)] }

// check tells where the two went apart.
func (p *player) check(same bool, what string, more ...any) {
	p.t.Helper()
	if !same {
		p.t.Fatalf("P9.1: seed %d, step %d, %s: %v", p.seed, p.step, what, more)
	}
}

// text is now and then one that is too long.
func (p *player) text() string {
	switch p.Intn(8) {
	case 0:
		return pattern(4078 + p.Intn(5))
	case 1:
		return pattern(p.Intn(4080))
	}
	return pattern(5000)[p.Intn(800):][:p.Intn(200)]
}

// calls takes n changing calls off those that are made ahead of the one that
// fails, and tells how many there are.
func (p *player) calls(n int) (int, api.Errno) {
	if p.fails < 0 || p.fails >= n {
		p.fails = max(p.fails-n, -1)
		return n, api.OK
	}
	made := p.fails + 1
	p.fails = -1
	return made, api.ErrIO
}

func (p *player) save(name string) {
	s, m := p.files[name], p.models[name]
	text := p.text()
	made, disk := 0, api.OK
	if len(text) <= 4080 && m.tried < 1<<40 {
		made, disk = p.calls(2)
	}
	wanted := m.save(text, disk)
	calls := p.f.Calls()
	err := s.Save([]byte(text))
	p.check(err == wanted, "Save", err, "not", wanted)
	p.check(p.f.Calls() == calls+made, "calls of a Save", p.f.Calls()-calls, "not", made)
	p.counts[err]++
}

func (p *player) create(name string) {
	text := p.text()
	made, wanted := 0, api.OK
	switch {
	case len(text) > 4080:
		wanted = api.ErrTooLarge
	case p.f.Size(name) >= 0:
		wanted = api.ErrExists
	default:
		// What lies in NEW is another file from the first call on.
		if made, wanted = p.calls(5); made > 1 || wanted == api.OK {
			p.forget("NEW")
		}
	}
	calls := p.f.Calls()
	s, err := Create(p.f, name, []byte(text))
	p.check(err == wanted && (s != nil) == (err == api.OK), "Create", err, "not", wanted)
	p.check(p.f.Calls() == calls+made, "calls of a Create", p.f.Calls()-calls, "not", made)
	p.counts[err]++
	if err == api.OK {
		p.files[name], p.models[name] = s, &modelFile{text: text, turn: 1, tried: 1}
		p.lasts[name] = true
	}
}

func (p *player) open(name string) {
	s, err := Open(p.f, name)
	if p.f.Size(name) < 0 {
		p.check(s == nil && err == api.ErrNotFound, "Open of none", err)
		return
	}
	b, _ := p.f.Read(name, 0, p.f.Size(name))
	m := modelOpen(b)
	if m == nil {
		p.check(s == nil && err == api.ErrCorrupt, "Open of no slots", err)
		p.forget(name)
		return
	}
	p.check(s != nil && err == api.OK, "Open", err)
	p.files[name], p.models[name] = s, m
}

func (p *player) forget(name string) {
	delete(p.files, name)
	delete(p.models, name)
	delete(p.lasts, name)
}

// crash goes on with the disk that is left, on which nothing is open. A file that
// was open and had lasted is still there.
func (p *player) crash() {
	keep := make([]bool, p.Intn(140))
	for i := range keep {
		keep[i] = p.Intn(2) > 0
	}
	p.f = p.f.Crash(p.Intn(4)-1, keep, p.Intn(70)-1)
	for _, name := range []string{"a", "b", "NEW"} {
		m := p.models[name]
		if m == nil || !p.lasts[name] {
			continue
		}
		s, err := Open(p.f, name)
		p.check(err == api.OK, "Open behind a crash of "+name, err)
		was := s.Turn() == m.turn && string(s.Text()) == m.text
		p.check(was || s.Turn() > m.turn && s.Turn() <= m.tried, "what a crash left", s.Turn(), "not", m.turn, m.tried)
	}
	p.fails = -1
	p.files, p.models = map[string]*File{}, map[string]*modelFile{}
	p.lasts = map[string]bool{}
	for _, name := range p.f.Names() {
		p.lasts[name] = true
	}
}

// spoil writes into a file that nobody has open.
func (p *player) spoil(name string) {
	if p.f.Size(name) != 8192 {
		return
	}
	p.f.Fail(-1)
	p.fails = -1
	at := p.Intn(2)*4096 + p.Intn(64)
	b := []byte{byte(p.Intn(256))}
	if p.Intn(3) == 0 {
		at, b = p.Intn(2)*4096, slotOf(1<<40-uint64(p.Intn(9)), p.text())
	}
	p.f.Write(name, at, b[:min(len(b), 4096)])
	p.f.Sync(name)
	p.open(name)
}

// remove lets a file be made anew.
func (p *player) remove(name string) {
	p.f.Fail(-1)
	p.fails = -1
	p.f.Remove(name)
	p.f.SyncDir()
	p.forget(name)
}

// hold compares what all files tell with their models.
func (p *player) hold() {
	for name, m := range p.models {
		s := p.files[name]
		p.check(string(s.Text()) == m.text, "the text of "+name, len(s.Text()), "not", len(m.text))
		p.check(s.Turn() == m.turn, "the turn of "+name, s.Turn(), "not", m.turn)
	}
}

func (p *player) play() {
	name := p.name()
	switch n := p.Intn(60); {
	case n == 0:
		p.crash()
	case n == 1:
		p.spoil(name)
	case n == 2:
		p.remove(name)
	case n < 9:
		p.fails = p.Intn(6)
		p.f.Fail(p.fails)
	case n < 20:
		p.create(name)
	case n < 25:
		// Of what a failed Save left unsynced a crash might take all.
		if m := p.models[name]; m == nil || m.turn == m.tried {
			p.open(name)
		}
	case p.models[name] != nil:
		p.save(name)
	}
	p.hold()
}

func TestAsTheModel(t *testing.T) {
	var counts [16]int
	for seed := range 60 {
		p := &player{Rand: rand.New(rand.NewSource(int64(seed))), t: t, fails: -1, seed: seed}
		p.f = disk.New(room)
		p.files, p.models, p.lasts = map[string]*File{}, map[string]*modelFile{}, map[string]bool{}
		for p.step = range 400 {
			p.play()
		}
		for i, n := range p.counts {
			counts[i] += n
		}
	}
	for _, err := range []api.Errno{api.OK, api.ErrTooLarge, api.ErrExists, api.ErrIO, api.ErrRange} {
		if counts[err] < 50 {
			t.Error(fmt.Sprintf("chance makes too few errors %d: %v", err, counts))
		}
	}
}
