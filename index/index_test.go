package index

import (
	"fmt"
	"maps"
	"math"
	"reflect"
	"slices"
	"strings"
	"testing"

	"stillroom/api"
)

func key(tenant uint32, text string) api.Key {
	return api.Key{Tenant: tenant, Text: text}
}

// sample is an entry no two of whose numbers are the same, with a part at each of
// these places.
func sample(seq uint64, seg int64, places ...int) Entry {
	e := Entry{Object: seq + 1000, Seq: seq, Head: api.Loc{Seg: seg, At: 7}, Size: int(seq%100) + 300}
	for _, at := range places {
		e.Parts = append(e.Parts, api.Loc{Seg: seg, At: at})
	}
	return e
}

// same holds entries against each other; that there are no Parts may be told in
// two ways.
func same(a, b Entry) bool {
	parts := slices.Equal(a.Parts, b.Parts)
	a.Parts, b.Parts = nil, nil
	return parts && reflect.DeepEqual(a, b)
}

// has holds a key's entry.
func has(t *testing.T, what string, x *Index, k api.Key, wanted Entry) {
	t.Helper()
	if e, ok := x.Get(k); !ok || !same(e, wanted) {
		t.Errorf("P11.1: %s: %v is %v, %v, not %v", what, k, e, ok, wanted)
	}
}

// hasNone holds that a key has no entry.
func hasNone(t *testing.T, what string, x *Index, k api.Key) {
	t.Helper()
	if e, ok := x.Get(k); ok || !same(e, Entry{}) {
		t.Errorf("P11.1: %s: %v is %v, %v, not nothing", what, k, e, ok)
	}
}

// holds holds what is told of a tenant.
func holds(t *testing.T, what string, x *Index, tenant uint32, keys string, size int) {
	t.Helper()
	if got := fmt.Sprintf("%q", x.Keys(tenant)); got != keys {
		t.Errorf("P11.1: %s: the tenant %d has the keys %s, not %s", what, tenant, got, keys)
	}
	if got := x.Size(tenant); got != size {
		t.Errorf("P11.1: %s: the tenant %d has the size %d, not %d", what, tenant, got, size)
	}
}

// live holds how many records lie in a segment.
func live(t *testing.T, what string, x *Index, tenant uint32, seg int64, wanted int) {
	t.Helper()
	if got := x.Live(tenant, seg); got != wanted {
		t.Errorf("P11.1: %s: of the tenant %d's records %d lie in %d, not %d", what, tenant, got, seg, wanted)
	}
}

// did holds what calls answered.
func did(t *testing.T, what string, wanted bool, all ...bool) {
	t.Helper()
	for i, ok := range all {
		if ok != wanted {
			t.Errorf("P11.1: %s: call %d is %v", what, i, ok)
		}
	}
}

var seqs = []uint64{0, 1, 2, 5, 6, 255, 256, 1<<32 - 1, 1 << 32, 1<<32 + 1, 1<<63 - 1, 1 << 63, 1<<63 + 1, 1<<64 - 2, 1<<64 - 1}

// A first Seq of any number may come; a second one must be greater, whether the
// first was put or dropped and whether the second is.
func TestTwoSeqs(t *testing.T) {
	k := key(3, "a")
	for _, first := range seqs {
		for _, second := range seqs {
			for calls := range 4 {
				what := fmt.Sprintf("%d and %d, calls %b", first, second, calls)
				x := New()
				elder, later := sample(first, 1, 50), sample(second, 2, 60, 70)
				elderDrops, laterDrops := calls&1 > 0, calls&2 > 0
				if elderDrops {
					did(t, what, true, x.Drop(k, first))
					hasNone(t, what, x, k)
				} else {
					did(t, what, true, x.Put(k, elder))
					has(t, what, x, k, elder)
				}
				wanted := second > first
				if laterDrops {
					did(t, what, wanted, x.Drop(k, second))
				} else {
					did(t, what, wanted, x.Put(k, later))
				}
				switch {
				case wanted && laterDrops, !wanted && elderDrops:
					hasNone(t, what, x, k)
				case wanted:
					has(t, what, x, k, later)
				default:
					has(t, what, x, k, elder)
				}
			}
		}
	}
}

// The greatest Seq counts, not the last that was tried; what was false is not
// remembered.
func TestManySeqs(t *testing.T) {
	x := New()
	k := key(3, "a")
	for i, one := range []struct {
		drop bool
		seq  uint64
		ok   bool
		left uint64 // the Seq of the entry that is there then, 0: none is
	}{
		{false, 9, true, 9}, {false, 5, false, 9}, {true, 6, false, 9}, {false, 7, false, 9}, {true, 9, false, 9}, {false, 9, false, 9},
		{false, 10, true, 10}, {true, 9, false, 10}, {true, 10, false, 10}, {true, 12, true, 0}, {false, 11, false, 0},
		{false, 12, false, 0}, {true, 11, false, 0}, {true, 12, false, 0}, {true, 13, true, 0}, {false, 13, false, 0}, {true, 20, true, 0},
		{false, 14, false, 0}, {false, 19, false, 0}, {false, 20, false, 0}, {false, 21, true, 21}, {false, 22, true, 22},
		{true, 21, false, 22}, {true, 23, true, 0}, {false, 22, false, 0}, {false, 30, true, 30},
	} {
		what := fmt.Sprintf("step %d", i)
		if one.drop {
			did(t, what, one.ok, x.Drop(k, one.seq))
		} else {
			did(t, what, one.ok, x.Put(k, sample(one.seq, int64(one.seq), 3)))
		}
		if one.left == 0 {
			hasNone(t, what, x, k)
			holds(t, what, x, 3, "[]", 0)
			continue
		}
		has(t, what, x, k, sample(one.left, int64(one.left), 3))
		holds(t, what, x, 3, `["a"]`, 300+int(one.left))
		live(t, what, x, 3, int64(one.left), 2)
	}
}

// Each key is for itself, whatever bytes it has.
func TestEachKey(t *testing.T) {
	texts := []string{"", "\x00", "\x00\x00", "A", "a", "a\x00", "aa", "b", "\xff", "\xc3\xa4", "ä\x80", strings.Repeat("k", 300), strings.Repeat("k", 5000)}
	tenants := []uint32{0, 1, 1 << 16, 1 << 31, 1<<32 - 1}
	x := New()
	seq := uint64(100)
	entries := map[api.Key]Entry{}
	for i, text := range texts {
		for _, tenant := range tenants {
			seq--
			k := key(tenant, text)
			hasNone(t, "ahead of its Put", x, k)
			if tenant == 1 && i%2 > 0 {
				did(t, "a Drop of its own", true, x.Drop(k, seq))
				continue
			}
			entries[k] = sample(seq, int64(i))
			did(t, "a Put of its own", true, x.Put(k, entries[k]))
		}
	}
	all := func(what string) {
		for _, tenant := range tenants {
			var keys []string
			size, records := 0, 0
			for _, text := range texts {
				k := key(tenant, text)
				e, ok := entries[k]
				if !ok {
					hasNone(t, what, x, k)
					continue
				}
				has(t, what, x, k, e)
				keys = append(keys, text)
				size += e.Size
				if e.Head.Seg == 4 {
					records++
				}
			}
			slices.Sort(keys)
			holds(t, what, x, tenant, fmt.Sprintf("%q", keys), size)
			live(t, what, x, tenant, 4, records)
		}
	}
	all("behind all Puts")
	for i, tenant := range tenants {
		x.Clear(tenant)
		maps.DeleteFunc(entries, func(k api.Key, _ Entry) bool { return k.Tenant == tenant })
		all(fmt.Sprintf("behind Clear of %d", tenant))
		for _, other := range tenants {
			cleared := slices.Contains(tenants[:i+1], other)
			if x.Put(key(other, "a"), sample(0, 4)) != cleared {
				t.Errorf("P11.1: Clear of %d: does %d remember? %v", tenant, other, cleared)
			}
			if cleared {
				x.Clear(other)
			}
		}
	}
}

func TestDrop(t *testing.T) {
	x := New()
	did(t, "Drops of what is not there", true, x.Drop(key(1, "a"), 0), x.Drop(key(1, "b"), 8), x.Drop(key(2, ""), 1<<64-1))
	did(t, "what they remember", false, x.Drop(key(1, "a"), 0), x.Put(key(1, "a"), sample(0, 1)), x.Put(key(1, "b"), sample(7, 1)),
		x.Put(key(1, "b"), sample(8, 1)), x.Put(key(2, ""), sample(1<<64-1, 1)), x.Drop(key(2, ""), 1<<64-1))
	holds(t, "behind Drops alone", x, 1, "[]", 0)
	live(t, "behind Drops alone", x, 1, 1, 0)
	did(t, "others", true, x.Put(key(2, "a"), sample(0, 1)), x.Put(key(2, "b"), sample(7, 1)), x.Put(key(1, ""), sample(3, 1)),
		x.Put(key(1, "a"), sample(1, 1, 4)), x.Put(key(1, "b"), sample(9, 1)))
	holds(t, "behind Puts", x, 1, `["" "a" "b"]`, 303+301+309)
	live(t, "behind Puts", x, 1, 1, 4)
	did(t, "a Drop of what is there", true, x.Drop(key(1, "a"), 2))
	hasNone(t, "dropped", x, key(1, "a"))
	has(t, "not dropped", x, key(2, "a"), sample(0, 1))
	has(t, "not dropped", x, key(1, "b"), sample(9, 1))
	holds(t, "behind a Drop", x, 1, `["" "b"]`, 303+309)
	live(t, "behind a Drop", x, 1, 1, 2)
	holds(t, "behind another tenant's Drop", x, 2, `["a" "b"]`, 300+307)
}

func TestMove(t *testing.T) {
	x := New()
	k := key(3, "a")
	for _, seq := range seqs {
		did(t, "Move of what was never there", false, x.Move(k, seq, sample(seq, 1)))
	}
	did(t, "a Put behind Moves that are false", true, x.Put(k, sample(0, 1, 5)))
	moved := Entry{Object: 1 << 63, Seq: 77, Head: api.Loc{Seg: -4, At: -5}, Parts: []api.Loc{{Seg: 8, At: 1}, {Seg: 9, At: 2}}, Size: -12}
	for _, seq := range seqs[1:] {
		did(t, "Move from another Seq", false, x.Move(k, seq, moved))
	}
	did(t, "Move of another key", false, x.Move(key(3, "b"), 0, moved), x.Move(key(4, "a"), 0, moved))
	has(t, "behind those", x, k, sample(0, 1, 5))
	did(t, "Move", true, x.Move(k, 0, moved))
	moved.Seq = 0
	has(t, "moved", x, k, moved)
	holds(t, "moved", x, 3, `["a"]`, -12)
	live(t, "moved", x, 3, 1, 0)
	live(t, "moved", x, 3, -4, 1)
	live(t, "moved", x, 3, 9, 1)
	did(t, "Move from a Seq that e told", false, x.Move(k, 77, moved))
	did(t, "Move once more", true, x.Move(k, 0, Entry{Seq: 88}))
	has(t, "moved to nothing else", x, k, Entry{})
	did(t, "a Put behind that", true, x.Put(k, sample(1, 1)))
}

// A Move changes nothing of what is remembered, whatever Seq it tells.
func TestMoveKeepsSeq(t *testing.T) {
	k := key(3, "a")
	for _, told := range seqs {
		x := New()
		did(t, "Put and Move", true, x.Put(k, sample(6, 1)), x.Move(k, 6, sample(told, 2)))
		moved := sample(told, 2)
		moved.Seq = 6
		has(t, "moved", x, k, moved)
		did(t, "late ones", false, x.Put(k, sample(5, 1)), x.Put(k, sample(6, 1)), x.Drop(k, 6))
		has(t, "behind late ones", x, k, moved)
		did(t, "Move again", true, x.Move(k, 6, sample(told, 3)))
		did(t, "a later Drop", true, x.Drop(k, 7))
		did(t, "behind the Drop", false, x.Move(k, 6, sample(6, 1)), x.Move(k, 7, sample(7, 1)), x.Move(k, 0, sample(0, 1)), x.Put(k, sample(7, 1)))
		hasNone(t, "dropped", x, k)
		did(t, "a later Put", true, x.Put(k, sample(8, 1)))
		did(t, "the Seq of what it replaced", false, x.Move(k, 6, sample(8, 2)), x.Move(k, 7, sample(8, 2)))
		has(t, "put again", x, k, sample(8, 1))
	}
}

func TestClear(t *testing.T) {
	x := New()
	clears := func(what string, tenant uint32, wanted int) {
		t.Helper()
		if n := x.Clear(tenant); n != wanted {
			t.Errorf("P11.1: %s: Clear(%d) is %d, not %d", what, tenant, n, wanted)
		}
	}
	clears("nothing at all", 0, 0)
	for tenant := range uint32(4) {
		for i, text := range []string{"a", "b", "c", "d", "e"} {
			x.Put(key(tenant, text), sample(uint64(10+i), 1, 2))
		}
		x.Drop(key(tenant, "b"), 20)
		x.Drop(key(tenant, "f"), 20)
	}
	x.Drop(key(4, "a"), 20)
	clears("one that was never there", 5, 0)
	clears("one with a Drop alone", 4, 0)
	did(t, "what that one remembered is forgotten", true, x.Put(key(4, "a"), sample(1, 1)))
	clears("four entries", 2, 4)
	clears("none any more", 2, 0)
	for _, text := range []string{"a", "b", "c", "d", "e", "f"} {
		hasNone(t, "cleared", x, key(2, text))
	}
	holds(t, "cleared", x, 2, "[]", 0)
	live(t, "cleared", x, 2, 1, 0)
	did(t, "Move of what was cleared", false, x.Move(key(2, "a"), 10, sample(10, 1)))
	for _, tenant := range []uint32{0, 1, 3} {
		holds(t, "not cleared", x, tenant, `["a" "c" "d" "e"]`, 4*300+10+12+13+14)
		live(t, "not cleared", x, tenant, 1, 8)
		did(t, "what is remembered of others", false, x.Put(key(tenant, "a"), sample(10, 1)), x.Put(key(tenant, "b"), sample(20, 1)),
			x.Put(key(tenant, "f"), sample(20, 1)), x.Drop(key(tenant, "c"), 12))
	}
	did(t, "what is forgotten", true, x.Put(key(2, "a"), sample(0, 9)), x.Drop(key(2, "b"), 0), x.Put(key(2, "f"), sample(1, 9)), x.Put(key(2, "b"), sample(1, 9)))
	holds(t, "put behind a Clear", x, 2, `["a" "b" "f"]`, 3*300+2)
	live(t, "put behind a Clear", x, 2, 9, 3)
	clears("those", 2, 3)
	clears("tenant 0", 0, 4)
}

func TestKeys(t *testing.T) {
	x := New()
	sorted := []string{"", "\x00", "10", "9", "A", "B", "Z", "a", "a\x00", "aa", "ab", "b", "z", "\x7f", "\x80", "ä", "ö", "\xff", "\xff\xff"}
	slices.Sort(sorted)
	for i := range sorted {
		// 8 and 19 have no divisor in common, so that each text comes once.
		text := sorted[(i*8+5)%len(sorted)]
		x.Put(key(7, text), sample(uint64(50-i), 1))
		if i%3 == 0 {
			x.Put(key(8, text), sample(1, 1))
		}
		x.Drop(key(7, text+"x"), 1)
	}
	for range 5 {
		if got := x.Keys(7); !slices.Equal(got, sorted) {
			t.Errorf("P11.1: Keys are %q", got)
		}
	}
	if got := x.Keys(8); len(got) != 7 || !slices.IsSorted(got) {
		t.Errorf("P11.1: Keys of another tenant are %q", got)
	}
	for _, tenant := range []uint32{0, 6, 9, 1<<32 - 1} {
		holds(t, "no keys", x, tenant, "[]", 0)
	}
}

// Many entries, of which each is told once and in its order.
func TestManyKeys(t *testing.T) {
	const many = 20000
	x := New()
	var wanted []string
	size := 0
	for i := range many {
		text := fmt.Sprint(i * 7919 % many)
		e := sample(uint64(i), int64(i%3), i, i+1)
		wanted = append(wanted, text)
		size += e.Size
		did(t, "many Puts", true, x.Put(key(uint32(1), text), e))
	}
	slices.Sort(wanted)
	if !slices.Equal(x.Keys(1), wanted) {
		t.Error("P11.1: many keys are not told rising")
	}
	if got := x.Size(1); got != size {
		t.Errorf("P11.1: many keys have the size %d, not %d", got, size)
	}
	live(t, "many keys", x, 1, 2, many/3*3)
	if n := x.Clear(1); n != many || len(x.Keys(1)) != 0 {
		t.Errorf("P11.1: Clear of many is %d", n)
	}
}

func TestLive(t *testing.T) {
	const low, high = math.MinInt64, math.MaxInt64
	x := New()
	x.Put(key(1, "zero"), Entry{})
	live(t, "an entry of zeros", x, 1, 0, 1)
	at := func(seg int64, at int) api.Loc { return api.Loc{Seg: seg, At: at} }
	x.Put(key(1, "spread"), Entry{Head: at(1, 0), Parts: []api.Loc{at(2, 0), at(3, 0), at(2, 9), at(low, 0), at(high, low), at(-1, high), at(0, 0)}})
	x.Put(key(1, "one place"), Entry{Head: at(3, 5), Parts: []api.Loc{at(3, 5), at(3, 5), at(3, -5)}})
	x.Put(key(1, "the same place"), Entry{Head: at(3, 5)})
	x.Put(key(2, "of another"), Entry{Head: at(3, 5), Parts: []api.Loc{at(1, 1), at(1, 1)}})
	for _, one := range []struct {
		seg  int64
		n, m int // of the tenants 1 and 2
	}{{low, 1, 0}, {low + 1, 0, 0}, {-3, 0, 0}, {-1, 1, 0}, {0, 2, 0}, {1, 1, 2}, {2, 2, 0}, {3, 6, 1}, {4, 0, 0}, {1<<32 + 1, 0, 0}, {high, 1, 0}} {
		live(t, "all", x, 1, one.seg, one.n)
		live(t, "all", x, 2, one.seg, one.m)
		live(t, "none", x, 0, one.seg, 0)
		live(t, "none", x, 1<<32-1, one.seg, 0)
	}
	x.Put(key(1, "one place"), Entry{Seq: 1, Head: at(2, 0)})
	live(t, "replaced", x, 1, 3, 2)
	live(t, "replaced", x, 1, 2, 3)
	x.Put(key(1, "one place"), Entry{Seq: 1, Head: at(3, 0)})
	live(t, "too late", x, 1, 3, 2)
	x.Move(key(1, "one place"), 1, Entry{Head: at(3, 0), Parts: []api.Loc{at(3, 0)}})
	live(t, "moved", x, 1, 3, 4)
	live(t, "moved", x, 1, 2, 2)
	x.Drop(key(1, "spread"), 1)
	live(t, "dropped", x, 1, 3, 3)
	live(t, "dropped", x, 1, 2, 0)
	x.Clear(1)
	live(t, "cleared", x, 1, 3, 0)
	live(t, "another was cleared", x, 2, 3, 1)
}

// Sums that an int holds are right, whatever it takes to get there.
func TestSize(t *testing.T) {
	for _, one := range []struct {
		sizes []int
		sum   int
	}{
		{nil, 0}, {[]int{0}, 0}, {[]int{5}, 5}, {[]int{-5}, -5}, {[]int{3, 4, 3}, 10}, {[]int{3, -4}, -1}, {[]int{1 << 40, 1 << 41}, 3 << 40},
		{[]int{math.MaxInt}, math.MaxInt}, {[]int{math.MinInt}, math.MinInt}, {[]int{math.MaxInt, math.MinInt}, -1},
		{[]int{math.MaxInt, 1, -1}, math.MaxInt},
		{[]int{math.MaxInt, 5, -6, -7}, math.MaxInt - 8}, {[]int{math.MinInt, -5, 6, 7}, math.MinInt + 8},
		{[]int{math.MaxInt, math.MaxInt, -math.MaxInt}, math.MaxInt},
		{[]int{math.MinInt, -1, 1}, math.MinInt}, {[]int{math.MinInt, math.MinInt, math.MaxInt, math.MaxInt, 9}, 7},
	} {
		x := New()
		var keys []string
		for i, size := range one.sizes {
			keys = append(keys, fmt.Sprint(i))
			x.Put(key(4, keys[i]), Entry{Seq: uint64(i), Object: 100, Size: size})
			x.Put(key(5, keys[i]), Entry{Size: 1})
		}
		for range 30 {
			holds(t, fmt.Sprint(one.sizes), x, 4, fmt.Sprintf("%q", keys), one.sum)
		}
		holds(t, fmt.Sprint(one.sizes), x, 5, fmt.Sprintf("%q", keys), len(keys))
	}
	x := New()
	x.Put(key(4, "a"), Entry{Seq: 1, Size: 10})
	x.Put(key(4, "b"), Entry{Seq: 1, Size: 100})
	x.Put(key(4, "a"), Entry{Seq: 2, Size: 20})
	holds(t, "replaced", x, 4, `["a" "b"]`, 120)
	x.Put(key(4, "a"), Entry{Seq: 2, Size: 30})
	holds(t, "too late", x, 4, `["a" "b"]`, 120)
	x.Move(key(4, "a"), 2, Entry{Size: 7})
	holds(t, "moved", x, 4, `["a" "b"]`, 107)
	x.Drop(key(4, "b"), 2)
	holds(t, "dropped", x, 4, `["a"]`, 7)
}

// spoil writes over a list and its spare room.
func spoil(l []api.Loc) {
	l = l[:cap(l)]
	for i := range l {
		l[i] = api.Loc{Seg: 99, At: -99}
	}
}

// handed is Parts with spare room, and what must be there still behind a call.
func handed(seg int64) ([]api.Loc, []api.Loc) {
	all := []api.Loc{{Seg: seg, At: 1}, {Seg: seg, At: 2}, {Seg: seg, At: 3}, {Seg: seg, At: 4}, {Seg: seg, At: 5}}
	return all[:3], slices.Clone(all)
}

func TestListsHandedIn(t *testing.T) {
	k := key(3, "a")
	calls := map[string]func(x *Index, e Entry) bool{
		"Put":  func(x *Index, e Entry) bool { return x.Put(k, e) },
		"Move": func(x *Index, e Entry) bool { return x.Put(k, Entry{Seq: 5}) && x.Move(k, 5, e) },
	}
	for what, call := range calls {
		x := New()
		parts, was := handed(6)
		did(t, what, true, call(x, Entry{Seq: 5, Parts: parts}))
		x.Get(k)
		x.Live(3, 6)
		x.Keys(3)
		if !slices.Equal(parts[:5], was) {
			t.Errorf("P0.3: %s changes what is handed in: %v", what, parts[:5])
		}
		spoil(parts)
		has(t, what+", and its list is written over", x, k, Entry{Seq: 5, Parts: was[:3]})
		live(t, what+", and its list is written over", x, 3, 6, 3)
		live(t, what+", and its list is written over", x, 3, 99, 0)
		did(t, what+" of an answer", true, x.Put(key(3, "b"), Entry{Parts: was}))
		e, _ := x.Get(key(3, "b"))
		did(t, what+" of an answer", true, x.Put(key(3, "c"), e))
		spoil(e.Parts)
		has(t, what+" of an answer", x, key(3, "c"), Entry{Parts: was})
	}
}

func TestListsAnswered(t *testing.T) {
	for n := range 40 {
		x := New()
		k := key(3, "a")
		wanted := sample(5, 6, make([]int, n)...)
		x.Put(k, wanted)
		x.Put(key(3, "b"), wanted)
		one, _ := x.Get(k)
		other, _ := x.Get(k)
		spoil(one.Parts)
		if !same(other, wanted) {
			t.Errorf("P0.3: answers of Get share memory: %v", other)
		}
		has(t, "an answer is written over", x, k, wanted)
		has(t, "an answer is written over", x, key(3, "b"), wanted)
		live(t, "an answer is written over", x, 3, 6, 2*n+2)
		one.Parts = append(one.Parts[:0], api.Loc{Seg: 1})
		if len(other.Parts) < cap(other.Parts) {
			_ = append(other.Parts, api.Loc{Seg: 2})
		}
		has(t, "an answer is appended to", x, k, wanted)
	}
}

func TestKeysAnswered(t *testing.T) {
	for n := range 20 {
		x := New()
		var wanted []string
		for i := range n {
			wanted = append(wanted, fmt.Sprintf("%03d", i))
			x.Put(key(3, wanted[i]), Entry{})
		}
		one, other := x.Keys(3), x.Keys(3)
		one = one[:cap(one)]
		for i := range one {
			one[i] = "spoilt"
		}
		if !slices.Equal(other, wanted) || !slices.Equal(x.Keys(3), wanted) {
			t.Errorf("P0.3: answers of Keys share memory: %q", other)
		}
	}
}

// Calls that ask change nothing, and tell the same whenever they are asked.
func TestAsking(t *testing.T) {
	x := New()
	did(t, "Put", true, x.Put(key(1, "b"), sample(1, 1)))
	for range 9 {
		did(t, "calls that come to nothing", false, x.Move(key(1, "a"), 0, Entry{}), x.Put(key(1, "b"), sample(1, 2)))
		hasNone(t, "asked for", x, key(1, "a"))
		has(t, "asked for", x, key(1, "b"), sample(1, 1))
		holds(t, "asked for", x, 1, `["b"]`, 301)
		live(t, "asked for", x, 1, 1, 1)
	}
	did(t, "what was asked for alone", true, x.Put(key(1, "a"), sample(0, 1)))
}

func TestNoPartsAndMany(t *testing.T) {
	x := New()
	x.Put(key(1, "nil"), Entry{Seq: 1, Parts: nil})
	x.Put(key(1, "empty"), Entry{Seq: 1, Parts: []api.Loc{}})
	has(t, "nil Parts", x, key(1, "nil"), Entry{Seq: 1})
	has(t, "empty Parts", x, key(1, "empty"), Entry{Seq: 1})
	live(t, "no Parts", x, 1, 0, 2)
	const many = 200000
	long := Entry{Seq: 1, Head: api.Loc{Seg: 4}}
	for i := range many {
		long.Parts = append(long.Parts, api.Loc{Seg: int64(i % 4), At: i})
	}
	did(t, "many Parts", true, x.Put(key(2, "long"), long))
	has(t, "many Parts", x, key(2, "long"), long)
	live(t, "many Parts", x, 2, 3, many/4)
	live(t, "many Parts", x, 2, 4, 1)
}

func TestTwoIndexes(t *testing.T) {
	x, y := New(), New()
	k := key(1, "a")
	did(t, "Put into one", true, x.Put(k, sample(5, 1)))
	hasNone(t, "the other", y, k)
	did(t, "Drop in the other", true, y.Drop(k, 3), y.Drop(k, 9))
	has(t, "the one", x, k, sample(5, 1))
	if n := y.Clear(1); n != 0 {
		t.Errorf("P11.1: Clear of the other is %d", n)
	}
	did(t, "Put into one", false, x.Put(k, sample(5, 1)))
	did(t, "Put into the other", true, y.Put(k, sample(5, 1)))
}

func TestNoIndex(t *testing.T) {
	var x *Index
	for _, k := range []api.Key{{}, key(1, "a"), key(1<<32-1, strings.Repeat("k", 5000))} {
		for _, seq := range seqs {
			did(t, "a nil *Index", false, x.Put(k, sample(seq, 1, 2)), x.Drop(k, seq), x.Move(k, seq, sample(seq, 1)))
		}
		hasNone(t, "a nil *Index", x, k)
		holds(t, "a nil *Index", x, k.Tenant, "[]", 0)
		for _, seg := range []int64{math.MinInt64, -1, 0, 1, math.MaxInt64} {
			live(t, "a nil *Index", x, k.Tenant, seg, 0)
		}
		if n := x.Clear(k.Tenant); n != 0 {
			t.Errorf("P11.1: Clear of a nil *Index is %d", n)
		}
	}
}
