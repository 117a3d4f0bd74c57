package manifest

import (
	"encoding/binary"
	"hash/crc32"
	"maps"
	"math/rand"
	"slices"
	"testing"

	"stillroom/api"
	"stillroom/disk"
)

// Manifests are held against a model that is a map of tenants.

// headed is a slot's head and text.
func headed(turn uint64, text []byte) []byte {
	b := binary.BigEndian.AppendUint64(nil, turn)
	b = binary.BigEndian.AppendUint32(b, uint32(len(text)))
	sum := crc32.Checksum(append(slices.Clone(b), text...), crc32.MakeTable(crc32.Castagnoli))
	return append(binary.BigEndian.AppendUint32(b, sum), text...)
}

// modelMay tells whether a tenant may be, by what the chapter says of each number.
func modelMay(t api.Tenant) bool {
	if t.Epoch == 0 || t.Epoch > 1<<40 || t.Next == 0 || t.Next > 1<<40 {
		return false
	}
	if t.Quota < 1000 || t.Quota > 65536 || t.NextSeg < 1 || t.NextSeg > 1<<40 {
		return false
	}
	rising := slices.IsSorted(t.Segs) && len(slices.Compact(slices.Clone(t.Segs))) == len(t.Segs)
	if len(t.Segs) > 60 || !rising {
		return false
	}
	return len(t.Segs) == 0 || t.Segs[0] > 0 && t.Segs[len(t.Segs)-1] < t.NextSeg
}

// player makes calls by chance, of a manifest and of its model.
type player struct {
	*rand.Rand
	t      *testing.T
	f      *disk.FS
	m      *Man
	model  map[uint32]api.Tenant
	lost   map[uint32]api.Tenant // what the last Put tried, if its Sync failed
	fails  int                   // the calls ahead of the one that fails, or -1
	seed   int
	step   int
	counts [16]int // of the errors that Put told
}

// check tells where the two went apart.
func (p *player) check(same bool, what string, more ...any) {
	p.t.Helper()
	if !same {
		p.t.Fatalf("P10.2: seed %d, step %d, %s: %v", p.seed, p.step, what, more)
	}
}

// number is one near an end of what may be.
func (p *player) number(low, high int64) int64 {
	switch p.Intn(40) {
	case 0:
		return low - 1
	case 1:
		return high + 1
	case 2, 3:
		return low
	case 4, 5:
		return high
	}
	return low + p.Int63n(high-low+1)
}

// tenant is now and then one that may not be.
func (p *player) tenant() api.Tenant {
	t := api.Tenant{Id: uint32(p.Intn(9)), Epoch: uint64(p.number(1, 1<<40)), Quota: p.number(1000, 1<<16)}
	t.Next, t.NextSeg = uint64(p.number(1, 1<<40)), p.number(1, 1<<40)
	if p.Intn(3) == 0 {
		t.NextSeg = p.number(1, 90)
	}
	n := p.Intn(8)
	if p.Intn(9) == 0 {
		n = p.Intn(63)
	}
	for range n {
		t.Segs = append(t.Segs, p.number(1, max(t.NextSeg-1, 2)))
	}
	slices.Sort(t.Segs)
	if p.Intn(9) > 0 {
		t.Segs = slices.Compact(t.Segs)
	}
	return t
}

// list is the model's tenants by Id rising.
func list(model map[uint32]api.Tenant) []api.Tenant {
	var l []api.Tenant
	for _, id := range slices.Sorted(maps.Keys(model)) {
		l = append(l, model[id])
	}
	return l
}

func (p *player) put() {
	x := p.tenant()
	with := maps.Clone(p.model)
	with[x.Id] = x
	var wanted api.Errno
	made := 0
	switch {
	case len(with) > 6:
		wanted = api.ErrFull
	case !modelMay(x):
		wanted = api.ErrForm
	case p.fails == 0 || p.fails == 1:
		wanted, made = api.ErrIO, p.fails+1
	default:
		made = 2
	}
	calls := p.f.Calls()
	err := p.m.Put(x)
	p.check(err == wanted, "Put", err, "not", wanted, x)
	p.check(p.f.Calls() == calls+made, "calls of a Put", p.f.Calls()-calls, "not", made)
	p.counts[err]++
	switch {
	case err == api.OK:
		p.model, p.lost = with, nil
	case made == 2:
		p.lost = with
	}
	if made > 0 {
		p.fails = max(p.fails-made, -1)
	}
}

// crash goes on with the disk that is left.
func (p *player) crash() {
	keep := make([]bool, p.Intn(140))
	for i := range keep {
		keep[i] = p.Intn(2) > 0
	}
	p.reopen(p.f.Crash(0, keep, p.Intn(70)-1))
}

// reopen takes what is on the disk, which may be what a Put that failed left.
func (p *player) reopen(f *disk.FS) {
	m, err := Open(f)
	p.check(err == api.OK, "Open", err)
	if p.lost != nil && told(m.All()) == told(list(p.lost)) {
		p.model = p.lost
	}
	p.f, p.m, p.lost, p.fails = f, m, nil, -1
	p.f.Fail(-1)
	do(p.t, p.f.Sync("MAN"))
}

func (p *player) play() {
	switch n := p.Intn(40); {
	case n == 0:
		p.crash()
	case n == 1:
		p.reopen(p.f)
	case n < 6 && p.lost == nil:
		p.fails = p.Intn(2)
		p.f.Fail(p.fails)
	case n == 6 && p.lost == nil && p.Intn(4) == 0:
		p.f.Fail(-1)
		do(p.t, p.f.Remove("MAN"))
		p.m, p.model, p.fails = created(p.t, p.f), map[uint32]api.Tenant{}, -1
	default:
		p.put()
	}
	holds(p.t, "as the model", p.m, list(p.model))
	if p.t.Failed() {
		p.check(false, "stopped")
	}
}

func TestAsTheModel(t *testing.T) {
	var counts [16]int
	for seed := range 60 {
		p := &player{Rand: rand.New(rand.NewSource(int64(seed))), t: t, fails: -1, seed: seed}
		p.f = disk.New(room)
		p.m, p.model = created(t, p.f), map[uint32]api.Tenant{}
		for p.step = range 200 {
			p.play()
		}
		for i, n := range p.counts {
			counts[i] += n
		}
	}
	for _, err := range []api.Errno{api.OK, api.ErrFull, api.ErrForm, api.ErrIO} {
		if counts[err] < 50 {
			t.Errorf("chance makes too few errors %d: %v", err, counts)
		}
	}
}

// Lists by chance, and bytes that were changed a little.
func TestListsAsTheModel(t *testing.T) {
	p := &player{Rand: rand.New(rand.NewSource(1)), t: t}
	may := 0
	for range 20000 {
		var l []api.Tenant
		for range p.Intn(4) {
			l = append(l, p.tenant())
		}
		wanted := true
		for i, x := range l {
			wanted = wanted && modelMay(x) && (i == 0 || l[i-1].Id < x.Id)
		}
		b := Encode(l)
		back, ok := Decode(b)
		if May(l) != wanted || (b != nil) != wanted || ok != wanted || ok && told(back) != told(l) {
			t.Fatalf("P10.1: %v: %v, %d bytes, %v", l, May(l), len(b), back)
		}
		if !wanted {
			continue
		}
		may++
		for range 5 {
			at := p.Intn(len(b))
			switch p.Intn(3) {
			case 0:
				b[at] = byte(p.Intn(256))
			case 1:
				b = slices.Insert(b, at, byte(p.Intn(3)))
			case 2:
				b = slices.Delete(b, at, min(len(b)-1, at+p.Intn(7)))
			}
			just(t, "bytes by chance", b)
		}
	}
	if may < 3000 {
		t.Errorf("chance makes too few lists that may be: %d", may)
	}
}
