package segment

import (
	"fmt"
	"math/rand"
	"slices"
	"testing"

	"stillroom/api"
	"stillroom/disk"
	"stillroom/record"
	"stillroom/scan"
)

// Segments are held against a model that keeps lists of records and what stands
// behind them, and asks the disk for nothing but its errors.

// modelSeg is a segment that is open.
type modelSeg struct {
	found []scan.Found
	text  []byte // all of the file
	whole bool
}

// modelOpen goes on from record to record.
func modelOpen(text []byte, tenant uint32) *modelSeg {
	m := &modelSeg{text: text}
	at := 0
	for {
		r, size, err := record.Decode(text[at:])
		if err != api.OK || r.Tenant != tenant {
			m.whole = at == len(text)
			return m
		}
		m.found = append(m.found, scan.Found{At: at, R: r})
		at += size
	}
}

// append takes l in, where the disk tells what its Write will.
func (m *modelSeg) append(l []api.Record, tenant uint32, disk api.Errno) ([]int, api.Errno) {
	wrong := func(r api.Record) bool { return r.Tenant != tenant || record.Encode(r) == nil }
	switch {
	case len(l) == 0 || slices.ContainsFunc(l, wrong):
		return nil, api.ErrForm
	case !m.whole:
		return nil, api.ErrCorrupt
	case disk != api.OK:
		return nil, disk
	}
	var places []int
	for _, r := range l {
		places = append(places, len(m.text))
		m.found = append(m.found, scan.Found{At: len(m.text), R: r})
		m.text = append(m.text, record.Encode(r)...)
	}
	return places, api.OK
}

func (m *modelSeg) read(at int, tenant uint32) (api.Record, api.Errno) {
	if at < 0 || at >= len(m.text) {
		return api.Record{}, api.ErrRange
	}
	r, _, err := record.Decode(m.text[at:])
	if err != api.OK || r.Tenant != tenant {
		return api.Record{}, api.ErrCorrupt
	}
	return r, api.OK
}

// player makes calls by chance, of segments and of their models.
type player struct {
	*rand.Rand
	t      *testing.T
	f      *disk.FS
	segs   map[string]*Seg
	models map[string]*modelSeg
	room   int
	fails  bool // the next changing call
	seed   int
	step   int
	counts [16]int // of the errors that Append told
}

func (p *player) tenant() uint32 { return []uint32{7, 77, 0}[p.Intn(3)] }
func (p *player) num() int64     { return int64(p.Intn(3)) }

// check tells where the two went apart.
func (p *player) check(same bool, what string, more ...any) {
	p.t.Helper()
	if !same {
		p.t.Fatalf("P8.1: seed %d, step %d, %s: %v", p.seed, p.step, what, more)
	}
}

// record is one of some tenant, now and then one that may not be.
func (p *player) record(tenant uint32, deep int) api.Record {
	body := pattern(p.Intn(60))
	if deep > 0 && p.Intn(4) == 0 {
		body = string(joined(p.record(p.tenant(), deep-1), p.record(p.tenant(), deep-1)))
	}
	r := of(tenant, numbered(p.Intn(1000), body))
	switch p.Intn(60) {
	case 0:
		r.Kind = 5 * p.Intn(2)
	case 1:
		r.Tenant++
	case 2:
		r.Body = pattern(api.MaxPart + p.Intn(2))
	}
	return r
}

func (p *player) list(tenant uint32) []api.Record {
	var l []api.Record
	for range p.Intn(6) {
		l = append(l, p.record(tenant, 2))
	}
	return l
}

// writes tells what a Write of so many more bytes will tell.
func (p *player) writes(n int) api.Errno {
	switch {
	case p.fails:
		return api.ErrIO
	case p.f.Used()+n > p.room:
		return api.ErrFull
	}
	return api.OK
}

func (p *player) append(tenant uint32, name string) {
	l := p.list(tenant)
	text := joined(l...)
	wanted, wantedErr := p.models[name].append(l, tenant, p.writes(len(text)))
	calls := p.f.Calls()
	got, err := p.segs[name].Append(l)
	p.check(err == wantedErr && slices.Equal(got, wanted), "Append", got, err, "not", wanted, wantedErr)
	p.counts[err]++
	made := 0
	if err != api.ErrForm && err != api.ErrCorrupt {
		made = 1
		p.fails = false
	}
	p.check(p.f.Calls() == calls+made, "the calls of an Append", p.f.Calls()-calls)
}

// open makes or opens a segment, also one that is open: its file is none of the
// elder Seg's any more.
func (p *player) open(tenant uint32, num int64) {
	name := Name(tenant, num)
	if p.f.Size(name) < 0 && p.Intn(3) > 0 {
		p.fails = false
		p.f.Fail(-1)
		s, err := Create(p.f, tenant, num)
		p.check(err == api.OK, "Create", err)
		p.segs[name], p.models[name] = s, modelOpen(nil, tenant)
		return
	}
	s, err := Open(p.f, tenant, num)
	if p.f.Size(name) < 0 {
		p.check(s == nil && err == api.ErrNotFound, "Open of none", err)
		return
	}
	b, _ := p.f.Read(name, 0, p.f.Size(name))
	p.check(err == api.OK, "Open", err)
	p.segs[name], p.models[name] = s, modelOpen(b, tenant)
}

// crash goes on with the disk that is left, on which nothing is open.
func (p *player) crash() {
	keep := make([]bool, p.Intn(40))
	for i := range keep {
		keep[i] = p.Intn(4) > 0
	}
	p.f = p.f.Crash(p.Intn(3), keep, p.Intn(20)-1)
	p.fails = false
	p.segs, p.models = map[string]*Seg{}, map[string]*modelSeg{}
}

// spoil writes into a file that nobody has open, or lays another tenant's bytes
// behind it.
func (p *player) spoil(tenant uint32, num int64) {
	name := Name(tenant, num)
	size := p.f.Size(name)
	if size < 0 {
		return
	}
	delete(p.segs, name)
	delete(p.models, name)
	p.f.Fail(-1)
	p.fails = false
	if p.Intn(2) == 0 {
		p.f.Write(name, p.Intn(size+1), []byte{byte(p.Intn(256))})
		return
	}
	p.f.Write(name, size, joined(p.list(p.tenant())...))
}

// hold compares all that a segment tells with its model.
func (p *player) hold(tenant uint32, name string) {
	s, m := p.segs[name], p.models[name]
	calls := p.f.Calls()
	p.check(s.Size() == len(m.text), "Size", s.Size(), "not", len(m.text))
	got := s.Records()
	p.check(slices.Equal(got, m.found), "Records", places(got), "not", places(m.found))
	for range 20 {
		at := p.Intn(len(m.text)+3) - 1
		if len(m.found) > 0 && p.Intn(2) == 0 {
			at = m.found[p.Intn(len(m.found))].At + p.Intn(3)*api.HeadSize
		}
		r, err := s.Read(at)
		wanted, wantedErr := m.read(at, tenant)
		p.check(r == wanted && err == wantedErr, fmt.Sprint("Read at ", at), r, err, "not", wanted, wantedErr)
	}
	p.check(p.f.Calls() == calls, "changing calls of what asks", p.f.Calls()-calls)
}

func (p *player) play() {
	tenant, num := p.tenant(), p.num()
	name := Name(tenant, num)
	switch n := p.Intn(40); {
	case n == 0:
		p.crash()
	case n == 1:
		p.spoil(tenant, num)
	case n == 2:
		p.room = p.Intn(9000)
		p.f.Room(p.room)
	case n < 5:
		p.f.Fail(0)
		p.fails = true
	case p.segs[name] == nil || n < 7:
		p.open(tenant, num)
	case n < 15:
		wanted := api.OK
		if p.fails {
			wanted = api.ErrIO
		}
		p.fails = false
		err := p.segs[name].Sync()
		p.check(err == wanted, "Sync", err, "not", wanted)
	default:
		p.append(tenant, name)
	}
	if p.segs[name] != nil {
		p.hold(tenant, name)
	}
}

func TestAsTheModel(t *testing.T) {
	var counts [16]int
	for seed := range 100 {
		p := &player{Rand: rand.New(rand.NewSource(int64(seed))), t: t, room: 9000, seed: seed}
		p.f = disk.New(p.room)
		p.segs, p.models = map[string]*Seg{}, map[string]*modelSeg{}
		for p.step = range 300 {
			p.play()
		}
		for i, n := range p.counts {
			counts[i] += n
		}
	}
	for _, err := range []api.Errno{api.OK, api.ErrForm, api.ErrCorrupt, api.ErrIO, api.ErrFull} {
		if counts[err] < 200 {
			t.Errorf("chance makes too few errors %d of Append: %v", err, counts)
		}
	}
}
