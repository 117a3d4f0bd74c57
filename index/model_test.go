package index

import (
	"math/rand"
	"slices"
	"testing"

	"stillroom/api"
)

// Indexes are held against a model that keeps a list of all that was put and
// dropped since Clear, and looks through all of it each time.

// event is a Put or a Drop that came in time.
type event struct {
	k    api.Key
	drop bool
	e    Entry // of a Drop its Seq alone
}

type model []event

// latest is where the event of k with the greatest Seq is, or -1.
func (m model) latest(k api.Key) int {
	found := -1
	for i, one := range m {
		if one.k == k && (found < 0 || one.e.Seq > m[found].e.Seq) {
			found = i
		}
	}
	return found
}

// take adds an event, if none of its key has its Seq or a greater one.
func (m *model) take(one event) bool {
	for _, other := range *m {
		if other.k == one.k && other.e.Seq >= one.e.Seq {
			return false
		}
	}
	*m = append(*m, one)
	return true
}

func (m model) get(k api.Key) (Entry, bool) {
	i := m.latest(k)
	if i < 0 || m[i].drop {
		return Entry{}, false
	}
	return m[i].e, true
}

func (m model) move(k api.Key, seq uint64, e Entry) bool {
	if was, ok := m.get(k); !ok || was.Seq != seq {
		return false
	}
	e.Seq = seq
	m[m.latest(k)].e = e
	return true
}

// entries is a tenant's, by their keys.
func (m model) entries(tenant uint32) map[string]Entry {
	l := map[string]Entry{}
	for _, one := range m {
		if e, ok := m.get(one.k); ok && one.k.Tenant == tenant {
			l[one.k.Text] = e
		}
	}
	return l
}

// player makes calls by chance, of an index and of its model.
type player struct {
	*rand.Rand
	t      *testing.T
	x      *Index
	m      model
	seed   int
	step   int
	counts map[string]int // of what calls answered
}

// check tells where the two went apart.
func (p *player) check(same bool, what string, more ...any) {
	p.t.Helper()
	if !same {
		p.t.Fatalf("P11.1: seed %d, step %d, %s: %v", p.seed, p.step, what, more)
	}
}

func (p *player) key() api.Key {
	return key(uint32(p.Intn(3)), []string{"", "a", "b", "aa", "B"}[p.Intn(5)])
}

func (p *player) seq() uint64 {
	return uint64(p.Intn(p.step/10 + 3))
}

func (p *player) loc() api.Loc {
	return api.Loc{Seg: int64(p.Intn(6) - 1), At: p.Intn(3)}
}

func (p *player) entry() Entry {
	e := Entry{Object: uint64(p.Intn(100)), Seq: p.seq(), Head: p.loc(), Size: p.Intn(1000) - 100}
	for range p.Intn(5) {
		e.Parts = append(e.Parts, p.loc())
	}
	return e
}

// both counts an answer that both gave.
func (p *player) both(what string, got, wanted bool, more ...any) {
	p.t.Helper()
	p.check(got == wanted, what, got, more)
	if got {
		what += " true"
	}
	p.counts[what]++
}

func (p *player) play() {
	k, e, seq := p.key(), p.entry(), p.seq()
	switch n := p.Intn(60); {
	case n == 0:
		had := len(p.m.entries(k.Tenant))
		p.m = slices.DeleteFunc(p.m, func(one event) bool { return one.k.Tenant == k.Tenant })
		got := p.x.Clear(k.Tenant)
		p.check(got == had, "Clear", k.Tenant, got, had)
		p.counts["Clear"]++
	case n < 15:
		p.both("Drop", p.x.Drop(k, seq), p.m.take(event{k: k, drop: true, e: Entry{Seq: seq}}), k, seq)
	case n < 30:
		if was, ok := p.m.get(k); ok && p.Intn(2) > 0 {
			seq = was.Seq
		}
		p.both("Move", p.x.Move(k, seq, e), p.m.move(k, seq, e), k, seq, e)
	default:
		p.both("Put", p.x.Put(k, e), p.m.take(event{k: k, e: e}), k, e)
	}
}

// compare asks both for all that they tell.
func (p *player) compare() {
	for tenant := range uint32(4) {
		l := p.m.entries(tenant)
		var keys []string
		size := 0
		lie := map[int64]int{}
		for text, e := range l {
			keys = append(keys, text)
			size += e.Size
			for _, loc := range append(slices.Clone(e.Parts), e.Head) {
				lie[loc.Seg]++
			}
		}
		slices.Sort(keys)
		p.check(slices.Equal(p.x.Keys(tenant), keys), "Keys", tenant, p.x.Keys(tenant), keys)
		p.check(p.x.Size(tenant) == size, "Size", tenant, p.x.Size(tenant), size)
		for seg := int64(-2); seg < 7; seg++ {
			p.check(p.x.Live(tenant, seg) == lie[seg], "Live", tenant, seg, p.x.Live(tenant, seg), lie[seg])
		}
		for _, text := range []string{"", "a", "b", "aa", "B", "c"} {
			e, ok := p.x.Get(key(tenant, text))
			wanted, there := l[text]
			p.check(ok == there && same(e, wanted), "Get", tenant, text, e, ok, wanted)
		}
	}
}

func TestAsTheModel(t *testing.T) {
	counts := map[string]int{}
	for seed := range 60 {
		p := &player{Rand: rand.New(rand.NewSource(int64(seed))), t: t, x: New(), seed: seed, counts: counts}
		for p.step = range 300 {
			p.play()
			p.compare()
		}
	}
	for _, what := range []string{"Clear", "Drop", "Drop true", "Move", "Move true", "Put", "Put true"} {
		if counts[what] < 100 {
			t.Errorf("chance makes too few calls %s: %v", what, counts)
		}
	}
}
