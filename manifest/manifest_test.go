package manifest

import (
	"fmt"
	"math"
	"slices"
	"strings"
	"testing"

	"stillroom/api"
	"stillroom/disk"
	"stillroom/slots"
)

const room = 1 << 16

// sample is a tenant that may be, with n segments.
func sample(id uint32, n int) api.Tenant {
	t := api.Tenant{Id: id, Epoch: uint64(id%7) + 1, Quota: 1000 + int64(id%1000), Next: uint64(id) + 3, NextSeg: int64(3*n + 1)}
	for i := range n {
		t.Segs = append(t.Segs, int64(3*i+1))
	}
	return t
}

// samples is tenants that may be, with these Ids.
func samples(ids ...uint32) []api.Tenant {
	var l []api.Tenant
	for i, id := range ids {
		l = append(l, sample(id, i))
	}
	return l
}

// largest is the tenants with the most segments and the greatest numbers.
func largest() []api.Tenant {
	var l []api.Tenant
	for i := range uint32(6) {
		t := api.Tenant{Id: math.MaxUint32 - 5 + i, Epoch: 1 << 40, Quota: 1 << 16, Next: 1 << 40, NextSeg: 1 << 40}
		for k := range int64(60) {
			t.Segs = append(t.Segs, 1<<40-60+k)
		}
		l = append(l, t)
	}
	return l
}

// told is tenants as a text of which each number can be read.
func told(l []api.Tenant) string {
	var s strings.Builder
	for _, t := range l {
		fmt.Fprintln(&s, t.Id, t.Epoch, t.Quota, t.Next, t.NextSeg, t.Segs)
	}
	return s.String()
}

func want(t *testing.T, what string, got, wanted api.Errno) {
	t.Helper()
	if got != wanted {
		t.Errorf("%s: error %d, not %d", what, got, wanted)
	}
}

func do(t *testing.T, errs ...api.Errno) {
	t.Helper()
	for i, err := range errs {
		if err != api.OK {
			t.Fatalf("call %d: error %d", i, err)
		}
	}
}

// may holds tenants that may be, or may not, and their bytes.
func may(t *testing.T, what string, l []api.Tenant, wanted bool) {
	t.Helper()
	was := told(l)
	if May(l) != wanted {
		t.Errorf("P10.1: %s: May is %v", what, !wanted)
	}
	b := Encode(l)
	if (b != nil) != wanted || len(b) > 4080 {
		t.Errorf("P10.1: %s: %d bytes", what, len(b))
	}
	if told(l) != was {
		t.Errorf("P10.1: %s: the list is changed", what)
	}
	back, ok := Decode(b)
	if ok != wanted || ok && told(back) != was || !ok && back != nil {
		t.Errorf("P10.1: %s: Decode is %v, %v", what, back, ok)
	}
}

func TestEachNumber(t *testing.T) {
	for _, one := range []struct {
		n  uint64
		ok bool
	}{
		{0, false}, {1, true}, {2, true}, {255, true}, {256, true}, {1 << 16, true}, {1<<32 - 1, true}, {1 << 32, true},
		{0x0102030405, true}, {1<<40 - 1, true}, {1 << 40, true}, {1<<40 + 1, false}, {1 << 48, false}, {1<<48 + 1, false},
		{1 << 63, false}, {1<<63 + 1, false}, {1<<64 - 1, false},
	} {
		x := sample(5, 0)
		x.Epoch = one.n
		may(t, fmt.Sprintf("Epoch %d", one.n), []api.Tenant{x}, one.ok)
		x = sample(5, 0)
		x.Next = one.n
		may(t, fmt.Sprintf("Next %d", one.n), []api.Tenant{x}, one.ok)
		x = sample(5, 0)
		x.NextSeg = int64(one.n)
		may(t, fmt.Sprintf("NextSeg %d", int64(one.n)), []api.Tenant{x}, one.ok)
	}
	for _, one := range []struct {
		n  int64
		ok bool
	}{
		{0, false}, {-1, false}, {-1000, false}, {999, false}, {1000, true}, {1001, true}, {65535, true}, {65536, true},
		{65537, false}, {1<<32 + 1000, false}, {1<<48 + 1000, false}, {math.MinInt64, false}, {math.MaxInt64, false},
	} {
		x := sample(5, 0)
		x.Quota = one.n
		may(t, fmt.Sprintf("Quota %d", one.n), []api.Tenant{x}, one.ok)
	}
	for _, id := range []uint32{0, 1, 255, 256, 1 << 16, 0x01020304, 1 << 31, 1<<32 - 1} {
		x := sample(5, 2)
		x.Id = id
		may(t, fmt.Sprintf("Id %d", id), []api.Tenant{x}, true)
	}
}

func TestEachSegment(t *testing.T) {
	const top = 1 << 40
	for _, one := range []struct {
		next int64
		segs []int64
		ok   bool
	}{
		{1, nil, true},
		{1, []int64{}, true},
		{1, []int64{1}, false},
		{1, []int64{0}, false},
		{1, []int64{-1}, false},
		{2, []int64{1}, true},
		{2, []int64{2}, false},
		{2, []int64{0}, false},
		{2, []int64{0, 1}, false},
		{2, []int64{1, 1}, false},
		{2, []int64{1, 2}, false},
		{2, []int64{math.MinInt64}, false},
		{9, []int64{1, 3, 8}, true},
		{9, []int64{1, 3, 9}, false},
		{9, []int64{1, 3, 10}, false},
		{9, []int64{3, 1, 8}, false},
		{9, []int64{1, 8, 3}, false},
		{9, []int64{8, 3, 1}, false},
		{9, []int64{3, 3, 8}, false},
		{9, []int64{1, 8, 8}, false},
		{9, []int64{9, 10, 11}, false},
		{9, []int64{10, 8}, false},
		{9, []int64{1, -1, 8}, false},
		{9, []int64{1, math.MaxInt64}, false},
		{9, []int64{1, math.MinInt64}, false},
		{9, []int64{1, 1<<48 + 2}, false},
		{top, []int64{0x0102030405, top - 1}, true},
		{top, []int64{top}, false},
		{top, []int64{top - 1, top}, false},
		{top + 1, []int64{1}, false},
		{top + 1, []int64{top}, false},
		{math.MaxInt64, []int64{1}, false},
		{0, []int64{-1}, false},
		{-1, []int64{-3, -2}, false},
	} {
		x := sample(5, 0)
		x.NextSeg, x.Segs = one.next, one.segs
		may(t, fmt.Sprintf("NextSeg %d, Segs %d", one.next, one.segs), []api.Tenant{x}, one.ok)
	}
	for n := range 70 {
		may(t, fmt.Sprintf("%d segments", n), []api.Tenant{sample(5, n)}, n <= 60)
		may(t, fmt.Sprintf("%d segments of the last", n), []api.Tenant{sample(4, 2), sample(5, n)}, n <= 60)
	}
	may(t, "very many segments", []api.Tenant{sample(5, 100000)}, false)
}

func TestEachList(t *testing.T) {
	const top = 1<<32 - 1
	for _, one := range []struct {
		ids []uint32
		ok  bool
	}{
		{nil, true},
		{[]uint32{0}, true},
		{[]uint32{0, 1}, true},
		{[]uint32{0, 0}, false},
		{[]uint32{1, 0}, false},
		{[]uint32{0, top}, true},
		{[]uint32{top, 0}, false},
		{[]uint32{top, top}, false},
		{[]uint32{1<<31 - 1, 1 << 31}, true},
		{[]uint32{1 << 31, 1<<31 - 1}, false},
		{[]uint32{1, 2, 2}, false},
		{[]uint32{1, 1, 2}, false},
		{[]uint32{1, 3, 2}, false},
		{[]uint32{2, 1, 3}, false},
		{[]uint32{1, 2, 1}, false},
		{[]uint32{1, 2, 3, 4, 5, 6}, true},
		{[]uint32{1, 2, 3, 4, 5, 5}, false},
		{[]uint32{1, 2, 3, 4, 6, 5}, false},
		{[]uint32{0, 700, 70000, 7000000, 700000000, top}, true},
		{[]uint32{1, 2, 3, 4, 5, 6, 7}, false},
		{[]uint32{1, 2, 3, 4, 5, 6, 6}, false},
		{[]uint32{0, 1, 2, 3, 4, 5, 6, 7, 8, 9, 10}, false},
	} {
		may(t, fmt.Sprintf("the Ids %d", one.ids), samples(one.ids...), one.ok)
	}
	may(t, "an empty list", []api.Tenant{}, true)
	may(t, "zero values", make([]api.Tenant, 1), false)
	may(t, "very many", make([]api.Tenant, 100000), false)
	may(t, "the largest", largest(), true)
	for i := range 6 {
		l := samples(1, 2, 3, 4, 5, 6)
		l[i].Quota = 999
		may(t, fmt.Sprintf("the tenant %d alone wrong", i), l, false)
		l = samples(1, 2, 3, 4, 5, 6)
		l[i].Segs = []int64{l[i].NextSeg}
		may(t, fmt.Sprintf("the segments %d alone wrong", i), l, false)
	}
	for n := range 7 {
		b := Encode(append(largest()[:n], make([]api.Tenant, 6-n)...))
		if wanted := n == 6; (b != nil) != wanted {
			t.Errorf("P10.1: %d of the largest, and zero values: %d bytes", n, len(b))
		}
	}
}

// Lists that differ have bytes that differ.
func TestEachNumberCounts(t *testing.T) {
	seen := map[string]string{}
	for _, l := range variants() {
		b := string(Encode(l))
		if b == "" {
			t.Errorf("P10.1: no bytes of %v", l)
		}
		if was, ok := seen[b]; ok {
			t.Errorf("P10.1: the same bytes of %s and %s", was, told(l))
		}
		seen[b] = told(l)
		if again := string(Encode(l)); again != b {
			t.Errorf("P10.1: other bytes of the same %v", l)
		}
	}
	if string(Encode(nil)) != string(Encode([]api.Tenant{})) {
		t.Error("P10.1: a nil list is not an empty one")
	}
}

// variants is lists that may be and differ in one number each.
func variants() [][]api.Tenant {
	turns := []func(x *api.Tenant){
		func(x *api.Tenant) {},
		func(x *api.Tenant) { x.Id++ },
		func(x *api.Tenant) { x.Id += 1 << 24 },
		func(x *api.Tenant) { x.Epoch++ },
		func(x *api.Tenant) { x.Epoch += 1 << 39 },
		func(x *api.Tenant) { x.Quota++ },
		func(x *api.Tenant) { x.Quota += 1 << 15 },
		func(x *api.Tenant) { x.Next++ },
		func(x *api.Tenant) { x.Next += 1 << 39 },
		func(x *api.Tenant) { x.NextSeg++ },
		func(x *api.Tenant) { x.NextSeg += 1 << 39 },
		func(x *api.Tenant) { x.Segs = nil },
		func(x *api.Tenant) { x.Segs = x.Segs[1:] },
		func(x *api.Tenant) { x.Segs = x.Segs[:1] },
		func(x *api.Tenant) { x.Segs[0]++ },
		func(x *api.Tenant) { x.Segs[1]++ },
	}
	all := [][]api.Tenant{nil}
	for _, turn := range turns {
		x := sample(5, 2)
		turn(&x)
		all = append(all, []api.Tenant{x}, []api.Tenant{sample(2, 3), x}, []api.Tenant{x, sample(1<<31, 3)})
	}
	return all
}

// just holds bytes that Decode takes for no others than Encode would make.
func just(t *testing.T, what string, b []byte) bool {
	t.Helper()
	was := string(b)
	l, ok := Decode(b)
	if string(b) != was {
		t.Errorf("P10.1: %s: the bytes are changed", what)
	}
	if !ok && l != nil {
		t.Errorf("P10.1: %s: tenants beside false: %v", what, l)
	}
	if ok && (!May(l) || string(Encode(l)) != was) {
		t.Errorf("P10.1: %s: Decode tells %v of bytes that are others", what, l)
	}
	return ok
}

func TestBytesOfNone(t *testing.T) {
	for _, l := range [][]api.Tenant{nil, samples(7), samples(0, 7, 1<<32-1), largest()} {
		b := Encode(l)
		for n := range b {
			if just(t, fmt.Sprintf("%d of %d bytes", n, len(b)), b[:n]) {
				t.Errorf("P10.1: %d of %d bytes are tenants", n, len(b))
			}
		}
		for _, more := range []string{"\x00", "?", "man:", strings.Repeat("\x00", 6), strings.Repeat("\x00", 5000), string(b)} {
			if just(t, "bytes behind", append(slices.Clone(b), more...)) {
				t.Errorf("P10.1: %d bytes behind are tenants", len(more))
			}
		}
		for bit := range 8 * len(b) {
			spoilt := slices.Clone(b)
			spoilt[bit/8] ^= 1 << (bit % 8)
			ok := just(t, fmt.Sprintf("the bit %d wrong", bit), spoilt)
			if ok && bit/8 < len(mark) {
				t.Errorf("P10.1: the bit %d of the mark may be wrong", bit)
			}
		}
	}
	for _, b := range []string{"", "?", "m", "man", "man:", "man:man:", strings.Repeat("\x00", 6), strings.Repeat("\x00", 10), strings.Repeat("\xff", 4080)} {
		if just(t, fmt.Sprintf("%q", b), []byte(b)) {
			t.Errorf("P10.1: %q is tenants", b)
		}
	}
	if just(t, "nil", nil) || just(t, "a long list", make([]byte, 1<<20)) {
		t.Error("P10.1: nothing is tenants")
	}
}

// marked is numbers laid as Encode lays them, whether they may be or not.
func marked(all ...uint64) []byte {
	return put([]byte(mark), all...)
}

func TestNumbersThatMayNotBe(t *testing.T) {
	if !just(t, "one that may be", marked(1, 7, 1, 1000, 1, 9, 2, 3, 8)) || !just(t, "none", marked(0)) {
		t.Fatal("P10.1: Encode lays them otherwise")
	}
	for _, all := range [][]uint64{
		{1},
		{2, 7, 1, 1000, 1, 9, 0},
		{0, 7, 1, 1000, 1, 9, 0},
		{1 << 32, 7, 1, 1000, 1, 9, 0},
		{1<<32 + 1, 7, 1, 1000, 1, 9, 0},
		{1<<48 - 1, 7, 1, 1000, 1, 9, 0},
		{1, 1<<32 + 7, 1, 1000, 1, 9, 0},
		{1, 7, 0, 1000, 1, 9, 0},
		{1, 7, 1<<40 + 1, 1000, 1, 9, 0},
		{1, 7, 1, 999, 1, 9, 0},
		{1, 7, 1, 65537, 1, 9, 0},
		{1, 7, 1, 1000, 0, 9, 0},
		{1, 7, 1, 1000, 1<<40 + 1, 9, 0},
		{1, 7, 1, 1000, 1, 0, 0},
		{1, 7, 1, 1000, 1, 1<<40 + 1, 0},
		{1, 7, 1, 1000, 1, 9, 1},
		{1, 7, 1, 1000, 1, 9, 1, 0},
		{1, 7, 1, 1000, 1, 9, 1, 9},
		{1, 7, 1, 1000, 1, 9, 1, 3, 8},
		{1, 7, 1, 1000, 1, 9, 2, 3},
		{1, 7, 1, 1000, 1, 9, 2, 3, 3},
		{1, 7, 1, 1000, 1, 9, 2, 8, 3},
		{1, 7, 1, 1000, 1, 9, 1<<48 - 1, 3, 8},
		{2, 7, 1, 1000, 1, 9, 0, 7, 1, 1000, 1, 9, 0},
		{2, 7, 1, 1000, 1, 9, 0, 6, 1, 1000, 1, 9, 0},
	} {
		if just(t, fmt.Sprint(all), marked(all...)) {
			t.Errorf("P10.1: the numbers %d are tenants", all)
		}
	}
	many := []uint64{1, 7, 1, 1000, 1, 99, 61}
	for i := range uint64(61) {
		many = append(many, i+1)
	}
	if just(t, "61 segments", marked(many...)) {
		t.Error("P10.1: 61 segments are a tenant's")
	}
	seven := []uint64{7}
	for i := range uint64(7) {
		seven = append(seven, i, 1, 1000, 1, 9, 0)
	}
	if just(t, "seven", marked(seven...)) {
		t.Error("P10.1: seven tenants")
	}
}

// spoil writes into all that a list has, its spare room too.
func spoil(l []api.Tenant) {
	l = l[:cap(l)]
	for i := range l {
		segs := l[i].Segs[:cap(l[i].Segs)]
		for k := range segs {
			segs[k] = -9
		}
		l[i] = api.Tenant{Id: 9}
	}
}

func TestDecodeAnswersNewMemory(t *testing.T) {
	l := samples(1, 2, 3)
	b, other := Encode(l), Encode(l)
	first, _ := Decode(b)
	second, _ := Decode(b)
	spoil(first)
	for i := range b[:cap(b)] {
		b[:cap(b)][i] = '?'
	}
	if told(second) != told(l) || string(other) != string(Encode(l)) || told(l) != told(samples(1, 2, 3)) {
		t.Error("P0.3: answers of Encode and Decode share memory")
	}
	third, _ := Decode(other)
	third[1].Segs = append(third[1].Segs, 5, 5, 5, 5)
	third[0].Segs = append(third[0].Segs, 5, 5, 5, 5)
	if told(third[2:]) != told(l[2:]) || third[1].Segs[0] != l[1].Segs[0] {
		t.Error("P0.3: the segments of two tenants share memory")
	}
}

// The longest bytes go into a slot, so that no list that may be is ErrFull.
func TestTheLargest(t *testing.T) {
	f := disk.New(room)
	m := created(t, f)
	for _, x := range largest() {
		want(t, "P10.2: Put of a large one", m.Put(x), api.OK)
	}
	holds(t, "the largest", m, largest())
	opens(t, "the largest", f, largest())
	if n := len(Encode(largest())); n > api.SlotSize-16 {
		t.Errorf("P10.1: %d bytes", n)
	}
}

// created is a new manifest.
func created(t *testing.T, f *disk.FS) *Man {
	t.Helper()
	m, err := Create(f)
	if m == nil || err != api.OK {
		t.Fatalf("P10.2: Create: error %d", err)
	}
	return m
}

// filled is a manifest that has these tenants.
func filled(t *testing.T, f *disk.FS, l []api.Tenant) *Man {
	t.Helper()
	m := created(t, f)
	for _, x := range l {
		do(t, m.Put(x))
	}
	return m
}

// holds compares what a manifest tells with what it should.
func holds(t *testing.T, what string, m *Man, l []api.Tenant) {
	t.Helper()
	if got := m.All(); told(got) != told(l) {
		t.Errorf("P10.2: %s: All is\n%snot\n%s", what, told(got), told(l))
	}
	for i, x := range l {
		got, ok := m.Get(x.Id)
		if !ok || told([]api.Tenant{got}) != told(l[i:i+1]) {
			t.Errorf("P10.2: %s: Get of %d is %v, %v", what, x.Id, got, ok)
		}
		for _, id := range []uint32{x.Id - 1, x.Id + 1} {
			there := slices.ContainsFunc(l, func(y api.Tenant) bool { return y.Id == id })
			if got, ok := m.Get(id); ok != there || !ok && told([]api.Tenant{got}) != told(make([]api.Tenant, 1)) {
				t.Errorf("P10.2: %s: Get of %d is %v, %v", what, id, got, ok)
			}
		}
	}
}

// filesOf is all files and what changed of the disk beside them.
func filesOf(t *testing.T, f *disk.FS) string {
	t.Helper()
	all := fmt.Sprint(f.Calls(), f.Dirty())
	for _, name := range f.Names() {
		b, err := f.Read(name, 0, f.Size(name))
		do(t, err)
		all += fmt.Sprintf(" %s %q", name, b)
	}
	return all
}

// opens holds what Open tells.
func opens(t *testing.T, what string, f *disk.FS, l []api.Tenant) *Man {
	t.Helper()
	before := filesOf(t, f)
	m, err := Open(f)
	want(t, "P10.2: Open, "+what, err, api.OK)
	if m == nil {
		t.Fatalf("P10.2: Open, %s: none", what)
	}
	holds(t, "opened, "+what, m, l)
	if filesOf(t, f) != before {
		t.Errorf("P10.2: Open, %s, changes the disk", what)
	}
	return m
}

// shut holds an Open that tells an error.
func shut(t *testing.T, what string, f *disk.FS, wanted api.Errno) {
	t.Helper()
	before := ""
	if f != nil {
		before = filesOf(t, f)
	}
	m, err := Open(f)
	want(t, "P10.2: Open, "+what, err, wanted)
	if m != nil {
		t.Errorf("P10.2: Open, %s: a Man beside an error", what)
	}
	if f != nil && filesOf(t, f) != before {
		t.Errorf("P10.2: Open, %s, changes the disk", what)
	}
}

func TestCreate(t *testing.T) {
	f := disk.New(8192)
	m := created(t, f)
	holds(t, "a new one", m, nil)
	if f.Calls() != 5 || f.Dirty() != 0 || !slices.Equal(f.Names(), []string{"MAN"}) || f.Size("MAN") != 8192 {
		t.Errorf("P10.2: Create: %d calls, %d dirty, files %q", f.Calls(), f.Dirty(), f.Names())
	}
	s, err := slots.Open(f, "MAN")
	if err != api.OK || s.Turn() != 1 || string(s.Text()) != string(Encode(nil)) {
		t.Errorf("P10.2: Create lays %q", s.Text())
	}
	opens(t, "a new one", f, nil)
	opens(t, "a new one behind a crash", f.Crash(0, nil, -1), nil)
}

func TestCreateErrors(t *testing.T) {
	m, err := Create(nil)
	want(t, "P10.2: Create without a disk", err, api.ErrNotFound)
	if m != nil {
		t.Error("P10.2: a Man without a disk")
	}
	f := disk.New(room)
	filled(t, f, samples(1, 2))
	f.Fail(0)
	before := filesOf(t, f)
	m, err = Create(f)
	want(t, "P10.2: Create where one is", err, api.ErrExists)
	if m != nil || filesOf(t, f) != before {
		t.Error("P10.2: Create where one is changes it")
	}
	opens(t, "behind another Create", f, samples(1, 2))
	f = disk.New(room)
	do(t, f.Create("MAN"))
	m, err = Create(f)
	want(t, "P10.2: Create where any file is", err, api.ErrExists)
	if m != nil || f.Size("MAN") != 0 {
		t.Error("P10.2: Create where any file is changes it")
	}
	m, err = Create(disk.New(8191))
	want(t, "P10.2: Create without room", err, api.ErrFull)
	if m != nil {
		t.Error("P10.2: a Man without room")
	}
	for fail := range 5 {
		f := disk.New(room)
		f.Fail(fail)
		m, err := Create(f)
		want(t, fmt.Sprintf("P10.2: Create whose call %d fails", fail), err, api.ErrIO)
		if m != nil || f.Calls() != fail+1 {
			t.Errorf("P10.2: Create whose call %d fails: %v, %d calls", fail, m, f.Calls())
		}
	}
}

// laid is a disk on which slots named MAN have this text.
func laid(t *testing.T, text string) *disk.FS {
	t.Helper()
	f := disk.New(room)
	_, err := slots.Create(f, "MAN", []byte(text))
	do(t, err)
	return f
}

func TestOpenErrors(t *testing.T) {
	shut(t, "no disk", nil, api.ErrNotFound)
	f := disk.New(room)
	shut(t, "no file", f, api.ErrNotFound)
	do(t, f.Create("man"), f.Create("NEW"), f.Create("MAN."))
	shut(t, "other files", f, api.ErrNotFound)
	do(t, f.Create("MAN"))
	shut(t, "an empty file", f, api.ErrCorrupt)
	for _, text := range []string{"", "?", "man", "man:", strings.Repeat("\x00", 6), strings.Repeat("?", 4080), string(Encode(nil)) + "\x00", string(Encode(samples(1, 2)))[1:], string(marked(1, 7, 1, 999, 1, 9, 0))} {
		shut(t, fmt.Sprintf("the text %.30q", text), laid(t, text), api.ErrCorrupt)
	}
	f = laid(t, string(Encode(samples(1, 2))))
	opens(t, "a text that slots laid", f, samples(1, 2))
	for _, at := range []int{0, 8, 12, 16, 20, 50} {
		g := f.Crash(0, nil, -1)
		do(t, g.Write("MAN", at, []byte{0xee}))
		shut(t, fmt.Sprintf("the byte %d is wrong", at), g, api.ErrCorrupt)
	}
	do(t, f.Write("MAN", 8192, []byte{0}))
	shut(t, "a longer file", f, api.ErrCorrupt)
}

// The text is the later one, even if it is none.
func TestOpenOfALaterText(t *testing.T) {
	f := disk.New(room)
	filled(t, f, samples(1, 2))
	s, err := slots.Open(f, "MAN")
	do(t, err, s.Save([]byte("?")))
	shut(t, "the later text is none", f, api.ErrCorrupt)
	do(t, s.Save(Encode(samples(3))))
	opens(t, "a still later text", f, samples(3))
}

func TestPut(t *testing.T) {
	f := disk.New(room)
	m := created(t, f)
	var l []api.Tenant
	for step, id := range []uint32{5, 1<<32 - 1, 0, 5, 7, 5, 1<<32 - 1, 0, 1 << 31, 6, 7} {
		what := fmt.Sprintf("Put %d of %d", step, id)
		x := sample(id, 5*step)
		x.Epoch = uint64(step) + 10
		l = slices.DeleteFunc(l, func(y api.Tenant) bool { return y.Id == id })
		l = append(l, x)
		slices.SortFunc(l, func(x, y api.Tenant) int { return int(x.Id) - int(y.Id) })
		calls := f.Calls()
		want(t, "P10.2: "+what, m.Put(x), api.OK)
		holds(t, what, m, l)
		if f.Calls() != calls+2 || f.Dirty() != 0 || len(f.Names()) != 1 {
			t.Errorf("P10.2: %s: %d calls, %d dirty, files %q", what, f.Calls()-calls, f.Dirty(), f.Names())
		}
		opens(t, what, f, l)
		opens(t, what+", behind a crash", f.Crash(0, nil, -1), l)
		s, err := slots.Open(f, "MAN")
		if err != api.OK || s.Turn() != uint64(step)+2 || string(s.Text()) != string(Encode(l)) {
			t.Errorf("P10.2: %s: slots have turn %d, %d bytes", what, s.Turn(), len(s.Text()))
		}
	}
}

// denied holds a Put that tells an error and makes so many calls.
func denied(t *testing.T, what string, f *disk.FS, m *Man, x api.Tenant, wanted api.Errno, calls int) {
	t.Helper()
	was, before := m.All(), f.Calls()
	want(t, "P10.2: Put, "+what, m.Put(x), wanted)
	holds(t, "Put, "+what, m, was)
	if got := f.Calls() - before; got != calls {
		t.Errorf("P10.2: Put, %s: %d calls, not %d", what, got, calls)
	}
}

func TestPutErrorsInOrder(t *testing.T) {
	six := samples(10, 20, 30, 40, 50, 60)
	f := disk.New(room)
	m := filled(t, f, six[:5])
	f.Fail(0)
	files := filesOf(t, f)
	denied(t, "one beside five that may not be", f, m, api.Tenant{Id: 60}, api.ErrForm, 0)
	denied(t, "one of five that may not be", f, m, api.Tenant{Id: 10}, api.ErrForm, 0)
	wrong := sample(10, 2)
	wrong.Segs[1] = wrong.NextSeg
	denied(t, "wrong segments", f, m, wrong, api.ErrForm, 0)
	denied(t, "61 segments", f, m, sample(60, 61), api.ErrForm, 0)
	denied(t, "very many segments", f, m, sample(60, 100000), api.ErrForm, 0)
	if filesOf(t, f) != files {
		t.Error("P10.2: a Put that is ErrForm changes the disk")
	}
	f.Fail(-1)
	do(t, m.Put(six[5]))
	f.Fail(0)
	files = filesOf(t, f)
	for _, id := range []uint32{0, 9, 11, 25, 55, 61, 1<<32 - 1} {
		denied(t, "a seventh", f, m, sample(id, 3), api.ErrFull, 0)
		denied(t, "a seventh that may not be", f, m, api.Tenant{Id: id}, api.ErrFull, 0)
		denied(t, "a seventh with very many segments", f, m, sample(id, 100000), api.ErrFull, 0)
	}
	for _, x := range six {
		denied(t, "one of six that may not be", f, m, api.Tenant{Id: x.Id}, api.ErrForm, 0)
	}
	if filesOf(t, f) != files {
		t.Error("P10.2: a Put that is ErrFull changes the disk")
	}
	denied(t, "one of six, failing", f, m, sample(30, 4), api.ErrIO, 1)
	do(t, m.Put(sample(30, 4)))
	six[2] = sample(30, 4)
	holds(t, "one of six", m, six)
	opens(t, "one of six", f, six)
}

// What Put can't save stays as it was, and the next Put goes on from there.
func TestPutFails(t *testing.T) {
	l := samples(1, 2, 3)
	for fail := range 2 {
		f := disk.New(room)
		m := filled(t, f, l)
		for range 3 {
			f.Fail(fail)
			denied(t, "another, failing", f, m, sample(2, 9), api.ErrIO, fail+1)
			f.Fail(fail)
			denied(t, "a new one, failing", f, m, sample(4, 9), api.ErrIO, fail+1)
		}
		opens(t, "behind failures and a crash", f.Crash(0, nil, -1), l)
		do(t, m.Put(sample(5, 1)))
		holds(t, "behind failures", m, append(samples(1, 2, 3), sample(5, 1)))
		opens(t, "behind failures", f.Crash(0, nil, -1), append(samples(1, 2, 3), sample(5, 1)))
	}
	f := disk.New(room)
	m := filled(t, f, l)
	do(t, f.Remove("MAN"))
	denied(t, "no file any more", f, m, sample(4, 0), api.ErrNotFound, 1)
}

func TestPutOfTheLastTurn(t *testing.T) {
	f := laid(t, string(Encode(samples(1))))
	b, err := f.Read("MAN", 0, 8192)
	do(t, err)
	for n := range 3 {
		g := disk.New(room)
		turn := uint64(1<<40 - 1 + n)
		do(t, g.Create("MAN"), g.Write("MAN", 0, b), g.Write("MAN", 0, headed(turn, Encode(samples(1)))), g.Sync("MAN"), g.SyncDir())
		m := opens(t, "near the last turn", g, samples(1))
		if n == 0 {
			do(t, m.Put(sample(2, 1)))
			opens(t, "at the last turn", g, samples(1, 2))
		}
		g.Fail(0)
		denied(t, "beyond the last turn", g, m, sample(2, 1), api.ErrRange, 0)
		denied(t, "beyond the last turn, wrong", g, m, api.Tenant{Id: 3}, api.ErrForm, 0)
	}
}

func TestPutKeepsNothing(t *testing.T) {
	f := disk.New(room)
	m := filled(t, f, samples(1, 2))
	x := sample(3, 4)
	x.Segs = append(make([]int64, 0, 9), x.Segs...)
	spare := x.Segs[:9]
	do(t, m.Put(x))
	if told([]api.Tenant{x}) != told([]api.Tenant{sample(3, 4)}) || !slices.Equal(spare[4:], make([]int64, 5)) {
		t.Error("P0.3: Put changes what is handed in")
	}
	for i := range spare {
		spare[i] = -9
	}
	wanted := []api.Tenant{sample(1, 0), sample(2, 1), sample(3, 4)}
	holds(t, "behind writing into what was handed in", m, wanted)
	all, other := m.All(), m.All()
	got, _ := m.Get(3)
	spoil(all)
	if told(other) != told(wanted) || told([]api.Tenant{got}) != told(wanted[2:]) {
		t.Error("P0.3: answers share memory")
	}
	spoil([]api.Tenant{got})
	holds(t, "behind writing into what was answered", m, wanted)
	do(t, m.Put(sample(4, 1)))
	holds(t, "a Put behind that", m, append(wanted, sample(4, 1)))
}

// A crash leaves the tenants as they were or as they were to be, whichever of the
// sectors came to the disk; if Put told OK, the latter.
func TestPutCrashes(t *testing.T) {
	elder, later := samples(1, 2, 3), append(samples(1, 2, 3), sample(4, 20))
	for _, fail := range []int{0, 1, -1} {
		f := disk.New(room)
		m := filled(t, f, elder)
		f.Fail(fail)
		err := m.Put(sample(4, 20))
		for keep := range 64 {
			for torn := -1; torn < 6; torn++ {
				var kept []bool
				for i := range 6 {
					kept = append(kept, keep>>i&1 > 0)
				}
				g := f.Crash(0, kept, torn)
				wanted := later
				if y, openErr := Open(g); openErr != api.OK || err != api.OK && told(y.All()) == told(elder) {
					wanted = elder
				}
				opens(t, fmt.Sprintf("fail %d, keep %b, torn %d", fail, keep, torn), g, wanted)
			}
		}
	}
}

func TestNoMan(t *testing.T) {
	var m *Man
	if l := m.All(); len(l) != 0 {
		t.Errorf("P10.2: a nil *Man has %v", l)
	}
	for _, id := range []uint32{0, 1, 1<<32 - 1} {
		if x, ok := m.Get(id); ok || told([]api.Tenant{x}) != told(make([]api.Tenant, 1)) {
			t.Errorf("P10.2: a nil *Man has %v", x)
		}
		want(t, "P10.2: Put to a nil *Man", m.Put(sample(id, 1)), api.ErrClosed)
		want(t, "P10.2: a wrong Put to a nil *Man", m.Put(api.Tenant{Id: id}), api.ErrClosed)
	}
}
