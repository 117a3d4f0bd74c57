package segment

import (
	"bytes"
	"encoding/hex"
	"fmt"
	"math"
	"slices"
	"strings"
	"testing"

	"stillroom/api"
	"stillroom/disk"
	"stillroom/record"
	"stillroom/scan"
)

const (
	owner = 7 // the tenant of most segments here
	other = 8
	room  = 1 << 20
)

// numbered is a record of the owner, each of whose numbers hangs on n.
func numbered(n int, body string) api.Record {
	return api.Record{
		Kind: 1 + n%4, Tenant: owner, Epoch: uint64(n), Object: uint64(n * 7), Seq: api.MaxNum - uint64(n), Body: body,
	}
}

// of is r as another tenant's.
func of(tenant uint32, r api.Record) api.Record {
	r.Tenant = tenant
	return r
}

// pattern makes n bytes that do not repeat soon.
func pattern(n int) string {
	b := make([]byte, n)
	x := uint32(12345)
	for i := range b {
		x = x*1664525 + 1013904223
		b[i] = byte(x >> 24)
	}
	return string(b)
}

// joined is records as bytes, one behind the other.
func joined(l ...api.Record) []byte {
	var b []byte
	for _, r := range l {
		b = append(b, record.Encode(r)...)
	}
	return b
}

// placed is records with the places where they stand one behind the other.
func placed(at int, l ...api.Record) []scan.Found {
	var list []scan.Found
	for _, r := range l {
		list = append(list, scan.Found{At: at, R: r})
		at += api.HeadSize + len(r.Body)
	}
	return list
}

// places is where those are.
func places(l []scan.Found) []int {
	var list []int
	for _, f := range l {
		list = append(list, f.At)
	}
	return list
}

func want(t *testing.T, what string, got, wanted api.Errno) {
	t.Helper()
	if got != wanted {
		t.Errorf("%s: error %d, not %d", what, got, wanted)
	}
}

func do(t *testing.T, errs ...api.Errno) {
	t.Helper()
	for i, err := range errs {
		if err != api.OK {
			t.Fatalf("call %d: error %d", i, err)
		}
	}
}

// textOf is a file's bytes.
func textOf(t *testing.T, f *disk.FS, name string) string {
	t.Helper()
	b, err := f.Read(name, 0, f.Size(name))
	if err != api.OK {
		t.Fatalf("no file %s: error %d", name, err)
	}
	return string(b)
}

// created is a new segment of the owner.
func created(t *testing.T, f *disk.FS, num int64) *Seg {
	t.Helper()
	s, err := Create(f, owner, num)
	if s == nil || err != api.OK {
		t.Fatalf("P8.1: Create: error %d", err)
	}
	return s
}

// opened is the owner's segment 1 on a disk of its own, whose file has these
// bytes.
func opened(t *testing.T, b []byte) (*disk.FS, *Seg) {
	t.Helper()
	f := disk.New(room)
	do(t, f.Create("t7.1"), f.Write("t7.1", 0, b), f.Sync("t7.1"), f.SyncDir())
	s, err := Open(f, owner, 1)
	if s == nil || err != api.OK {
		t.Fatalf("P8.1: Open: error %d", err)
	}
	return f, s
}

// appended are the places that Append tells.
func appended(t *testing.T, s *Seg, l ...api.Record) []int {
	t.Helper()
	got, err := s.Append(l)
	if err != api.OK || len(got) != len(l) {
		t.Fatalf("P8.1: Append of %d records: %v, error %d", len(l), got, err)
	}
	return got
}

// refused holds an Append that tells an error: nothing has come by it.
func refused(t *testing.T, what string, f *disk.FS, s *Seg, l []api.Record, wanted api.Errno) {
	t.Helper()
	before, size, records := filesOf(t, f), s.Size(), s.Records()
	got, err := s.Append(l)
	if len(got) != 0 || err != wanted {
		t.Errorf("P8.1: Append, %s: %v, error %d, not %d", what, got, err, wanted)
	}
	if filesOf(t, f) != before || s.Size() != size || !slices.Equal(s.Records(), records) {
		t.Errorf("P8.1: Append, %s: something has come", what)
	}
}

// filesOf is all files' names and bytes, and how much of them is dirty.
func filesOf(t *testing.T, f *disk.FS) string {
	t.Helper()
	s := fmt.Sprintln(f.Dirty())
	for _, name := range f.Names() {
		s += fmt.Sprintf("%s=%q\n", name, textOf(t, f, name))
	}
	return s
}

// checkRecords holds Records against what it should tell.
func checkRecords(t *testing.T, what string, s *Seg, wanted []scan.Found) {
	t.Helper()
	if got := s.Records(); !slices.Equal(got, wanted) {
		t.Errorf("P8.1: Records, %s: at %v, not at %v", what, places(got), places(wanted))
	}
}

// checkRead holds Read against what it should tell.
func checkRead(t *testing.T, what string, s *Seg, at int, wanted api.Record, wantedErr api.Errno) {
	t.Helper()
	if got, err := s.Read(at); got != wanted || err != wantedErr {
		t.Errorf("P8.1: Read at %d, %s: %v, error %d, not %v, error %d", at, what, got, err, wanted, wantedErr)
	}
}

func TestName(t *testing.T) {
	tests := []struct {
		tenant uint32
		num    int64
		wanted string
	}{
		{0, 0, "t0.0"}, {0, 1, "t0.1"}, {1, 0, "t1.0"}, {7, 10, "t7.10"}, {71, 0, "t71.0"}, {10, 9, "t10.9"},
		{1 << 31, 1 << 31, "t2147483648.2147483648"}, {math.MaxUint32, 1 << 32, "t4294967295.4294967296"},
		{math.MaxUint32, 1<<40 - 1, "t4294967295.1099511627775"}, {math.MaxUint32, 1 << 40, "t4294967295.1099511627776"},
		{7, 1<<40 + 1, ""}, {7, -1, ""}, {7, -7, ""}, {0, math.MaxInt64, ""}, {0, math.MinInt64, ""}, {7, 1 << 62, ""},
	}
	for _, c := range tests {
		if got := Name(c.tenant, c.num); got != c.wanted {
			t.Errorf("P8.1: Name of %d, %d: %q, not %q", c.tenant, c.num, got, c.wanted)
		}
	}
}

func TestCreate(t *testing.T) {
	nums := []int64{0, 1, 12, 1<<40 - 1, 1 << 40}
	for _, tenant := range []uint32{0, 7, math.MaxUint32} {
		f := disk.New(room)
		do(t, f.Create("else"))
		for i, num := range nums {
			calls := f.Calls()
			s, err := Create(f, tenant, num)
			if s == nil || err != api.OK {
				t.Fatalf("P8.1: Create of %d, %d: error %d", tenant, num, err)
			}
			// Both made to last: a crash takes no name away.
			if left := f.Crash(0, nil, -1); !slices.Contains(left.Names(), Name(tenant, num)) || len(left.Names()) != i+2 {
				t.Errorf("P8.1: Create of %d, %d: a crash leaves %q", tenant, num, left.Names())
			}
			if f.Calls() != calls+2 || f.Size(Name(tenant, num)) != 0 || s.Size() != 0 || len(s.Records()) != 0 {
				t.Errorf("P8.1: Create of %d, %d: %d calls, size %d", tenant, num, f.Calls()-calls, s.Size())
			}
			checkRead(t, "of an empty one", s, 0, api.Record{}, api.ErrRange)
			r := of(tenant, numbered(i, "body"))
			appended(t, s, r)
			checkRead(t, "of its first", s, 0, r, api.OK)
		}
	}
}

var wrongNums = []int64{math.MinInt64, -1 << 40, -1, 1<<40 + 1, 1 << 41, math.MaxInt64}

// Errors of Create, each ahead of those that its chapter names behind it.
func TestCreateErrors(t *testing.T) {
	for _, num := range wrongNums {
		for _, f := range []*disk.FS{disk.New(room), nil} {
			f.Fail(0)
			s, err := Create(f, owner, num)
			if s != nil || f.Calls() != 0 || len(f.Names()) != 0 {
				t.Errorf("P8.1: Create of %d makes something", num)
			}
			want(t, fmt.Sprintf("P8.1: Create of %d", num), err, api.ErrRange)
		}
	}
	s, err := Create(nil, owner, 3)
	if s != nil || err != api.ErrNotFound {
		t.Errorf("P8.1: Create on no disk: error %d", err)
	}
	f := disk.New(room)
	appended(t, created(t, f, 3), numbered(1, "body"))
	do(t, f.Create("waiting"))
	before, calls := filesOf(t, f), f.Calls()
	f.Fail(0)
	s, err = Create(f, owner, 3)
	if s != nil || err != api.ErrExists || f.Calls() != calls || filesOf(t, f) != before {
		t.Errorf("P8.1: Create of one that is there: error %d", err)
	}
	if left := f.Crash(0, nil, -1); !slices.Equal(left.Names(), []string{"t7.3"}) {
		t.Errorf("P8.1: Create of one that is there makes the directory last: %q", left.Names())
	}
	want(t, "P8.1: the failing call behind ErrExists", f.SyncDir(), api.ErrIO)
}

func TestCreateTellsTheDisksErrors(t *testing.T) {
	f := disk.New(room)
	f.Fail(0)
	s, err := Create(f, owner, 3)
	if s != nil || err != api.ErrIO || len(f.Names()) != 0 || f.Calls() != 1 {
		t.Errorf("P8.1: Create whose Create fails: error %d, %d calls, %q", err, f.Calls(), f.Names())
	}
	f.Fail(1)
	s, err = Create(f, owner, 3)
	if s != nil || err != api.ErrIO || f.Size("t7.3") != 0 || f.Calls() != 3 {
		t.Errorf("P8.1: Create whose SyncDir fails: error %d, %d calls, %q", err, f.Calls(), f.Names())
	}
	if left := f.Crash(0, nil, -1); len(left.Names()) != 0 {
		t.Errorf("P8.1: Create whose SyncDir fails lasts: %q", left.Names())
	}
	s, err = Create(f, owner, 3)
	if s != nil || err != api.ErrExists {
		t.Errorf("P8.1: Create behind that: error %d", err)
	}
	s, err = Open(f, owner, 3)
	want(t, "P8.1: Open of the one that stayed", err, api.OK)
	if got := appended(t, s, numbered(1, "")); got[0] != 0 {
		t.Errorf("P8.1: Append to the one that stayed: %v", got)
	}
	full := disk.New(room)
	for i := range api.MaxFiles {
		do(t, full.Create(fmt.Sprint("t7.", i)))
	}
	s, err = Create(full, owner, api.MaxFiles)
	if s != nil || err != api.ErrFull || len(full.Names()) != api.MaxFiles {
		t.Errorf("P8.1: Create in a full directory: error %d", err)
	}
	_, err = Create(full, owner, 3)
	want(t, "P8.1: Create of one that is there in a full directory", err, api.ErrExists)
}

func TestOpenErrors(t *testing.T) {
	f := disk.New(room)
	created(t, f, 3)
	created(t, f, 0)
	do(t, f.Create("t7."), f.Create("t7.03"), f.Create("t7.1099511627777"), f.Create("t77.1"))
	calls, reads := f.Calls(), f.Reads()
	f.Fail(0)
	for _, num := range append(wrongNums, 1, 2, 33, 77, 1<<40) {
		for _, d := range []*disk.FS{f, nil} {
			s, err := Open(d, owner, num)
			if s != nil || err != api.ErrNotFound {
				t.Errorf("P8.1: Open of %d: error %d", num, err)
			}
		}
	}
	for _, tenant := range []uint32{0, 70, 77, math.MaxUint32} {
		s, err := Open(f, tenant, 3)
		if s != nil || err != api.ErrNotFound {
			t.Errorf("P8.1: Open of tenant %d: error %d", tenant, err)
		}
	}
	if f.Calls() != calls || f.Reads() != reads {
		t.Errorf("P8.1: Open that finds none: %d calls, %d bytes", f.Calls()-calls, f.Reads()-reads)
	}
	if s, err := Open(nil, owner, 3); s != nil || err != api.ErrNotFound {
		t.Errorf("P8.1: Open on no disk: error %d", err)
	}
}

// Opening and asking changes nothing, so no call that fails is used up.
func TestOpenAndAskingMakeNoChange(t *testing.T) {
	f := disk.New(room)
	appended(t, created(t, f, 1), numbered(1, "first"), numbered(2, ""))
	before, calls := filesOf(t, f), f.Calls()
	f.Fail(0)
	s, err := Open(f, owner, 1)
	do(t, err)
	for at := range s.Size() {
		s.Read(at)
	}
	s.Records()
	if f.Calls() != calls || filesOf(t, f) != before {
		t.Errorf("P8.1: %d changing calls", f.Calls()-calls)
	}
	want(t, "P8.1: the failing call behind that", s.Sync(), api.ErrIO)
}

// What is written hangs on no other program.
func TestKnown(t *testing.T) {
	b, err := hex.DecodeString("53520100000000" + "0000000000000000" + "0000000000000000" + "0000000000000000" + "00000000" + "9b59d870")
	if err != nil {
		t.Fatal(err)
	}
	f := disk.New(room)
	s, _ := Create(f, 0, 5)
	if got := appended(t, s, api.Record{Kind: 1}, api.Record{Kind: 1}); !slices.Equal(got, []int{0, 39}) {
		t.Errorf("P8.1: Append of known records: %v", got)
	}
	if got := textOf(t, f, "t0.5"); got != string(b)+string(b) {
		t.Errorf("P8.1: Append of known records: %x", got)
	}
}

// Each list is one Write behind what there is, however long it is.
func TestAppend(t *testing.T) {
	f := disk.New(1 << 22)
	s := created(t, f, 1)
	all := pattern(api.MaxPart)
	var wanted []scan.Found
	var text []byte
	n := 0
	for size := 1; size < 60; size++ {
		var l []api.Record
		for range size {
			l = append(l, numbered(n, all[:n%(api.MaxPart+1)]))
			n++
		}
		calls := f.Calls()
		list := placed(len(text), l...)
		if got := appended(t, s, l...); !slices.Equal(got, places(list)) {
			t.Fatalf("P8.1: Append of %d records: %v, not %v", size, got, places(list))
		}
		text = append(text, joined(l...)...)
		wanted = append(wanted, list...)
		if f.Calls() != calls+1 || s.Size() != len(text) || textOf(t, f, "t7.1") != string(text) {
			t.Fatalf("P8.1: Append of %d records: %d calls, size %d, not %d", size, f.Calls()-calls, s.Size(), len(text))
		}
	}
	if n <= api.MaxPart {
		t.Fatalf("only %d records: the test is blind to long ones", n)
	}
	checkRecords(t, "of many", s, wanted)
	for _, one := range wanted {
		checkRead(t, "of many", s, one.At, one.R, api.OK)
	}
	again, err := Open(f, owner, 1)
	do(t, err)
	checkRecords(t, "of many, opened", again, wanted)
	if got := appended(t, again, numbered(0, "")); got[0] != len(text) || again.Size() != len(text)+api.HeadSize {
		t.Errorf("P8.1: Append behind an Open: %v, size %d", got, again.Size())
	}
}

// The bounds of a record's numbers are no business of its place.
func TestAppendBounds(t *testing.T) {
	for _, r := range []api.Record{
		{Kind: api.KHead, Tenant: owner}, {Kind: api.KDelete, Tenant: owner}, numbered(1, pattern(api.MaxPart)),
		{Kind: api.KPart, Tenant: owner, Epoch: api.MaxNum, Object: api.MaxNum, Seq: api.MaxNum},
	} {
		s := created(t, disk.New(room), 1)
		appended(t, s, r, r)
		checkRecords(t, "at the bounds", s, placed(0, r, r))
	}
}

// wrongRecords are those that may not be, and those that may be another's.
var wrongRecords = []api.Record{
	{}, {Kind: 0, Tenant: owner}, {Kind: 5, Tenant: owner}, {Kind: -1, Tenant: owner}, {Kind: 257, Tenant: owner},
	{Kind: 1, Tenant: owner, Epoch: api.MaxNum + 1}, {Kind: 1, Tenant: owner, Object: api.MaxNum + 1},
	{Kind: 1, Tenant: owner, Seq: api.MaxNum + 1}, {Kind: 1, Tenant: owner, Seq: math.MaxUint64},
	numbered(1, strings.Repeat("x", api.MaxPart+1)), numbered(1, strings.Repeat("x", 1<<20)),
	{Kind: 1, Tenant: 0}, {Kind: 1, Tenant: 8}, {Kind: 1, Tenant: 1<<8 + owner}, {Kind: 1, Tenant: 1<<31 + owner},
}

func TestAppendRefusesForm(t *testing.T) {
	f := disk.New(room)
	s := created(t, f, 1)
	appended(t, s, numbered(1, "there"))
	torn, broken := opened(t, []byte("SR"))
	for _, c := range []struct {
		f *disk.FS
		s *Seg
	}{{f, s}, {torn, broken}} {
		calls := c.f.Calls()
		c.f.Fail(0)
		refused(t, "nil", c.f, c.s, nil, api.ErrForm)
		refused(t, "none", c.f, c.s, make([]api.Record, 0, 5), api.ErrForm)
		for _, r := range wrongRecords {
			right := numbered(2, "right")
			for _, l := range [][]api.Record{{r}, {r, right}, {right, r}, {right, r, right}, {right, right, right, r}} {
				refused(t, fmt.Sprintf("a wrong one of %d: %.50v", len(l), r), c.f, c.s, l, api.ErrForm)
			}
		}
		if c.f.Calls() != calls {
			t.Errorf("P8.1: Append of what may not be makes %d calls", c.f.Calls()-calls)
		}
		c.f.Fail(-1)
	}
	if got := appended(t, s, numbered(3, "")); got[0] != 44 {
		t.Errorf("P8.1: Append behind those: %v", got)
	}
}

func TestAppendTellsTheDisksErrors(t *testing.T) {
	f := disk.New(200)
	s := created(t, f, 1)
	first, second, third := numbered(1, "first"), numbered(2, "second"), numbered(3, pattern(22))
	f.Fail(0)
	refused(t, "a Write that fails", f, s, []api.Record{first, second}, api.ErrIO)
	appended(t, s, first)
	do(t, s.Sync())
	f.Fail(0)
	refused(t, "a Write that fails later on", f, s, []api.Record{second}, api.ErrIO)
	refused(t, "too much", f, s, []api.Record{second, second, second, second}, api.ErrFull)
	refused(t, "a byte too much", f, s, []api.Record{second, third, numbered(4, pattern(12))}, api.ErrFull)
	f.Fail(0)
	refused(t, "too much, and a Write that fails", f, s, []api.Record{numbered(4, pattern(500))}, api.ErrIO)
	if got := appended(t, s, second, third); !slices.Equal(got, []int{44, 89}) {
		t.Errorf("P8.1: Append behind errors: %v", got)
	}
	refused(t, "a full disk", f, s, []api.Record{numbered(4, pattern(12))}, api.ErrFull)
	if got := appended(t, s, numbered(4, pattern(11))); got[0] != 150 || f.Used() != 200 {
		t.Errorf("P8.1: Append up to the last byte: %v", got)
	}
	checkRecords(t, "behind errors", s, placed(0, first, second, third, numbered(4, pattern(11))))
	f.Room(1000)
	if got := appended(t, s, first); got[0] != 200 {
		t.Errorf("P8.1: Append in a greater room: %v", got)
	}
}

// tails are bytes behind which nothing may be appended.
func tails() map[string][]byte {
	one := joined(numbered(5, "the tail's"))
	wrong := bytes.Clone(one)
	wrong[len(wrong)-1]++
	return map[string][]byte{
		"a nought": {0}, "noughts": make([]byte, 100), "a mark's first": []byte("S"), "a mark": []byte("SR"),
		"a head cut short": one[:api.HeadSize-1], "a head alone": one[:api.HeadSize], "all but a byte": one[:len(one)-1],
		"a wrong sum": wrong, "a wrong one, and a right one": append(wrong, one...), "a nought and a right one": append([]byte{0}, one...),
		"another tenant's":                   joined(of(other, numbered(6, "its"))),
		"another tenant's, and its own":      joined(of(other, numbered(6, "its")), numbered(6, "own")),
		"another's, its own, and a nought":   append(joined(of(other, numbered(6, "its")), numbered(6, "own")), 0),
		"one of a tenant of the same digits": joined(of(77, numbered(6, ""))),
		"one of the tenant 0":                joined(of(0, numbered(6, ""))),
	}
}

// Behind what Records tells a file may go on; nothing is appended to it then.
func TestOpenOfOneThatGoesOn(t *testing.T) {
	for what, tail := range tails() {
		for n := range 4 {
			var l []api.Record
			for i := range n {
				l = append(l, numbered(i, pattern(i*9)))
			}
			b := append(joined(l...), tail...)
			f, s := opened(t, b)
			checkRecords(t, what, s, placed(0, l...))
			if s.Size() != len(b) {
				t.Errorf("P8.1: Size, %s: %d, not %d", what, s.Size(), len(b))
			}
			calls := f.Calls()
			f.Fail(0)
			refused(t, what, f, s, []api.Record{numbered(1, "more")}, api.ErrCorrupt)
			refused(t, what+", again", f, s, []api.Record{numbered(1, ""), numbered(2, "")}, api.ErrCorrupt)
			if f.Calls() != calls {
				t.Errorf("P8.1: Append, %s: %d calls", what, f.Calls()-calls)
			}
			want(t, "P8.1: Sync that fails", s.Sync(), api.ErrIO)
			want(t, "P8.1: Sync", s.Sync(), api.OK)
			refused(t, what+", behind a Sync", f, s, []api.Record{numbered(1, "more")}, api.ErrCorrupt)
		}
	}
}

func TestOpenOfOneThatIsWhole(t *testing.T) {
	for n := range 40 {
		var l []api.Record
		for i := range n {
			l = append(l, numbered(i, pattern(i*i%(api.MaxPart+1))))
		}
		b := joined(l...)
		f, s := opened(t, b)
		checkRecords(t, "of a whole one", s, placed(0, l...))
		if s.Size() != len(b) {
			t.Errorf("P8.1: Size behind an Open: %d, not %d", s.Size(), len(b))
		}
		more := numbered(n, "more")
		if got := appended(t, s, more, more); !slices.Equal(got, []int{len(b), len(b) + 43}) {
			t.Errorf("P8.1: Append behind an Open: %v", got)
		}
		checkRecords(t, "of a whole one with more", s, placed(0, append(l, more, more)...))
		if got := textOf(t, f, "t7.1"); got != string(b)+string(joined(more, more)) {
			t.Errorf("P8.1: Append behind an Open: the file is %x", got)
		}
	}
}

// Each cut of a file is either whole or not to be appended to.
func TestOpenOfEachCut(t *testing.T) {
	l := []api.Record{numbered(1, "first"), numbered(2, ""), numbered(3, pattern(70))}
	b := joined(l...)
	ends := []int{0, 44, 83, len(b)}
	for n := range len(b) + 1 {
		f, s := opened(t, b[:n])
		count := 0
		for _, end := range ends[1:] {
			if n >= end {
				count++
			}
		}
		checkRecords(t, "of a cut", s, placed(0, l[:count]...))
		if s.Size() != n {
			t.Errorf("P8.1: Size of a cut: %d, not %d", s.Size(), n)
		}
		if !slices.Contains(ends, n) {
			refused(t, "a cut", f, s, l[:1], api.ErrCorrupt)
			continue
		}
		if got := appended(t, s, l[0]); got[0] != n {
			t.Errorf("P8.1: Append behind a cut at %d: %v", n, got)
		}
	}
}

// A wrong bit ends Records ahead of its record; those behind it can be read.
func TestEachBitWrong(t *testing.T) {
	l := []api.Record{numbered(1, "first"), numbered(2, ""), numbered(3, "third"), numbered(4, "fourth")}
	b := joined(l...)
	all := placed(0, l...)
	for i := range b {
		for bit := range 8 {
			b[i] ^= 1 << bit
			f, s := opened(t, b)
			hit := 0
			for hit+1 < len(all) && i >= all[hit+1].At {
				hit++
			}
			checkRecords(t, "with a wrong bit", s, all[:hit])
			for k, one := range all {
				if k == hit {
					checkRead(t, "with a wrong bit", s, one.At, api.Record{}, api.ErrCorrupt)
				} else {
					checkRead(t, "with a wrong bit elsewhere", s, one.At, one.R, api.OK)
				}
			}
			refused(t, "a wrong bit", f, s, l[:1], api.ErrCorrupt)
			b[i] ^= 1 << bit
		}
	}
}

// checkReads holds Read at each place of a segment, and around it, against what
// stands in the file's bytes.
func checkReads(t *testing.T, what string, s *Seg, b []byte, tenant uint32) {
	t.Helper()
	for at := -3; at < len(b)+3; at++ {
		if at < 0 || at >= len(b) {
			checkRead(t, what, s, at, api.Record{}, api.ErrRange)
			continue
		}
		r, _, err := record.Decode(b[at:])
		if err != api.OK || r.Tenant != tenant {
			checkRead(t, what, s, at, api.Record{}, api.ErrCorrupt)
			continue
		}
		checkRead(t, what, s, at, r, api.OK)
	}
}

func TestReadAtEachPlace(t *testing.T) {
	inner := numbered(5, "inner")
	longest := numbered(6, pattern(api.MaxPart))
	l := []api.Record{numbered(1, "first"), numbered(2, string(joined(inner, of(other, inner)))), longest, numbered(3, "")}
	f := disk.New(room)
	s := created(t, f, 1)
	appended(t, s, l...)
	checkReads(t, "of a new one", s, joined(l...), owner)
	checkRead(t, "within another one's Body", s, 44+39, inner, api.OK)
	checkRead(t, "another tenant's within a Body", s, 44+39+44, api.Record{}, api.ErrCorrupt)
	for what, tail := range tails() {
		b := append(joined(l...), tail...)
		b = append(b, joined(longest, of(other, longest), inner)...)
		_, s := opened(t, b)
		checkReads(t, what, s, b, owner)
		checkRead(t, "behind "+what, s, len(b)-44, inner, api.OK)
		checkRead(t, "another tenant's behind "+what, s, len(b)-44-1039, api.Record{}, api.ErrCorrupt)
		checkRead(t, "the longest behind "+what, s, len(b)-44-2*1039, longest, api.OK)
		_, s = opened(t, b[:len(b)-1])
		checkRead(t, "all but a byte", s, len(b)-44, api.Record{}, api.ErrCorrupt)
	}
}

// The tenant 0 is one like any other, though where nothing stands there is a
// record of noughts to be told.
func TestTenantZero(t *testing.T) {
	f := disk.New(room)
	s, err := Create(f, 0, 1)
	do(t, err)
	l := []api.Record{of(0, numbered(1, "first")), of(0, numbered(2, string(joined(numbered(3, "7's")))))}
	appended(t, s, l...)
	checkReads(t, "of the tenant 0", s, joined(l...), 0)
	checkRecords(t, "of the tenant 0", s, placed(0, l...))
	refused(t, "of the tenant 0", f, s, []api.Record{numbered(1, "")}, api.ErrForm)
	b := append(joined(l...), joined(numbered(4, ""), l[0])...)
	b = append(b, joined(l[0])[:40]...)
	do(t, f.Create("t0.2"), f.Write("t0.2", 0, b))
	s, err = Open(f, 0, 2)
	do(t, err)
	checkReads(t, "of the tenant 0 with another's", s, b, 0)
	checkRecords(t, "of the tenant 0 with another's", s, placed(0, l...))
	refused(t, "of the tenant 0 with another's", f, s, l, api.ErrCorrupt)
}

func TestReadFarOff(t *testing.T) {
	f, s := opened(t, joined(numbered(1, "first")))
	for _, at := range []int{math.MinInt, math.MinInt + 1, -1 << 32, -1039, -1, 44, 45, 64, 1 << 32, math.MaxInt - 1, math.MaxInt} {
		checkRead(t, "far off", s, at, api.Record{}, api.ErrRange)
	}
	if f.Calls() != 4 {
		t.Errorf("P8.1: Read makes %d changing calls", f.Calls()-4)
	}
	_, empty := opened(t, nil)
	checkRead(t, "of an empty one", empty, 0, api.Record{}, api.ErrRange)
}

// Records of others among a tenant's: the first one ends Records.
func TestRecordsOfAnotherTenant(t *testing.T) {
	for from := range 5 {
		var l []api.Record
		for i := range 5 {
			r := numbered(i, pattern(i))
			// One of its own stands among the other's, too.
			if i == from || i > from+1 {
				r = of(other, r)
			}
			l = append(l, r)
		}
		b := joined(l...)
		f, s := opened(t, b)
		checkRecords(t, "of two tenants", s, placed(0, l[:from]...))
		refused(t, "another tenant's", f, s, []api.Record{numbered(1, "")}, api.ErrCorrupt)
		checkReads(t, "of two tenants", s, b, owner)
		told := s.Records()
		for _, one := range told[:cap(told)] {
			if one.R.Tenant == other {
				t.Error("the spare room behind Records has another tenant's")
			}
		}
	}
	b := joined(of(other, numbered(1, "a")), of(other, numbered(2, "b")))
	_, s := opened(t, b)
	checkRecords(t, "of another tenant alone", s, nil)
	if s.Size() != len(b) {
		t.Errorf("P8.1: Size of another tenant's: %d", s.Size())
	}
}

// Nothing lasts ahead of Sync, all of it behind it.
func TestSync(t *testing.T) {
	f := disk.New(room)
	s := created(t, f, 1)
	first, second := numbered(1, pattern(100)), numbered(2, pattern(30))
	appended(t, s, first)
	if got := f.Crash(0, nil, -1).Size("t7.1"); got != 0 {
		t.Errorf("P8.1: Append makes %d bytes last", got)
	}
	do(t, f.Create("waiting"))
	calls := f.Calls()
	f.Fail(0)
	want(t, "P8.1: Sync that fails", s.Sync(), api.ErrIO)
	if got := f.Crash(0, nil, -1).Size("t7.1"); got != 0 {
		t.Errorf("P8.1: Sync that fails makes %d bytes last", got)
	}
	want(t, "P8.1: Sync", s.Sync(), api.OK)
	left := f.Crash(0, nil, -1)
	if textOf(t, left, "t7.1") != string(joined(first)) || f.Calls() != calls+2 {
		t.Errorf("P8.1: Sync: %q, %d calls", textOf(t, left, "t7.1"), f.Calls()-calls)
	}
	if !slices.Equal(left.Names(), []string{"t7.1"}) {
		t.Errorf("P8.1: Sync makes the directory last: %q", left.Names())
	}
	appended(t, s, second)
	if got := f.Crash(0, nil, -1).Size("t7.1"); got != 139 {
		t.Errorf("P8.1: a second Append: %d bytes last", got)
	}
	do(t, s.Sync())
	if got := textOf(t, f.Crash(0, nil, -1), "t7.1"); got != string(joined(first, second)) || f.Dirty() != 0 {
		t.Errorf("P8.1: a second Sync: %q", got)
	}
}

// Whatever a crash leaves of what was not synced, what was synced is told, and
// no more than was appended.
func TestCrash(t *testing.T) {
	old := []api.Record{numbered(1, "old"), numbered(2, pattern(50))}
	for _, fresh := range [][]api.Record{
		{numbered(3, pattern(200))}, {numbered(3, ""), numbered(4, pattern(60)), numbered(5, "last")}, {numbered(3, ""), numbered(4, "")},
	} {
		f := disk.New(room)
		s := created(t, f, 1)
		appended(t, s, old...)
		do(t, s.Sync())
		appended(t, s, fresh...)
		dirty := f.Dirty()
		seen := map[int]int{}
		for bits := range 1 << dirty {
			keep := make([]bool, dirty)
			for i := range keep {
				keep[i] = bits>>i&1 == 1
			}
			for torn := -1; torn <= dirty; torn++ {
				left := f.Crash(0, keep, torn)
				seen[checkLeft(t, left, slices.Concat(old, fresh), len(old))]++
			}
		}
		if seen[len(old)] == 0 || seen[len(old)+len(fresh)] == 0 {
			t.Errorf("crashes leave too little: %v", seen)
		}
		checkRecords(t, "behind the crashes of a copy", s, placed(0, slices.Concat(old, fresh)...))
	}
}

// checkLeft opens what a crash left, of which the first records were synced, and
// tells how many records there are.
func checkLeft(t *testing.T, left *disk.FS, all []api.Record, synced int) int {
	t.Helper()
	s, err := Open(left, owner, 1)
	do(t, err)
	found := placed(0, all...)
	n := len(s.Records())
	if n < synced || n > len(all) {
		t.Fatalf("P8.1: a crash leaves %d records of %d", n, len(all))
	}
	checkRecords(t, "behind a crash", s, found[:n])
	if s.Size() != left.Size("t7.1") {
		t.Errorf("P8.1: Size behind a crash: %d, not %d", s.Size(), left.Size("t7.1"))
	}
	more := numbered(9, "more")
	if s.Size() != len(joined(all[:n]...)) {
		refused(t, "behind a crash", left, s, []api.Record{more}, api.ErrCorrupt)
		return n
	}
	if got := appended(t, s, more); got[0] != s.Size()-43 {
		t.Errorf("P8.1: Append behind a crash: %v", got)
	}
	checkRecords(t, "appended behind a crash", s, placed(0, append(slices.Clone(all[:n]), more)...))
	return n
}

// Segments side by side have nothing of one another.
func TestApart(t *testing.T) {
	f := disk.New(room)
	var segs []*Seg
	var wanted [][]api.Record
	tenants := []uint32{0, 1, 7, 11, 111, math.MaxUint32}
	nums := []int64{0, 1, 11, 1 << 40}
	for _, tenant := range tenants {
		for _, num := range nums {
			s, err := Create(f, tenant, num)
			do(t, err)
			segs = append(segs, s)
			wanted = append(wanted, nil)
		}
	}
	for n := range 200 {
		k := n * 7 % len(segs)
		r := of(tenants[k/len(nums)], numbered(n, pattern(n%50)))
		appended(t, segs[k], r)
		wanted[k] = append(wanted[k], r)
	}
	for k, s := range segs {
		checkRecords(t, "side by side", s, placed(0, wanted[k]...))
		again, err := Open(f, tenants[k/len(nums)], nums[k%len(nums)])
		do(t, err)
		checkRecords(t, "side by side, opened", again, placed(0, wanted[k]...))
		if s.Size() != len(joined(wanted[k]...)) || again.Size() != s.Size() {
			t.Errorf("P8.1: Size side by side: %d, %d", s.Size(), again.Size())
		}
	}
}

// What Append is given stays as it was, and is not kept.
func TestAppendLeavesItsList(t *testing.T) {
	f := disk.New(room)
	s := created(t, f, 1)
	list := []api.Record{numbered(1, "a"), numbered(2, "b"), numbered(3, "c"), numbered(4, "d")}
	before := slices.Clone(list)
	for n := range len(list) + 1 {
		s.Append(list[:n])
		if !slices.Equal(list, before) {
			t.Fatalf("P0.3: a list of %d records or its spare room is changed", n)
		}
	}
	wanted, text := s.Records(), textOf(t, f, "t7.1")
	clear(list)
	checkRecords(t, "when the list is changed", s, wanted)
	if textOf(t, f, "t7.1") != text || len(wanted) != 10 {
		t.Error("P0.3: a list is kept")
	}
}

// Who writes into an answer, its spare room too, changes nothing else.
func TestAnswersAreNewMemory(t *testing.T) {
	f := disk.New(room)
	s := created(t, f, 1)
	l := []api.Record{numbered(1, "a"), numbered(2, "b"), numbered(3, "c")}
	first, second := appended(t, s, l...), appended(t, s, l...)
	fill := first[:cap(first)]
	for i := range fill {
		fill[i] = -1
	}
	if !slices.Equal(second, []int{120, 160, 200}) {
		t.Errorf("P0.3: an answer of Append is another one's: %v", second)
	}
	b := append(joined(l...), joined(of(other, l[0]))...)
	_, mixed := opened(t, b)
	for _, one := range []*Seg{s, mixed} {
		wanted := slices.Clone(one.Records())
		told, later := one.Records(), one.Records()
		told = told[:cap(told)]
		for i := range told {
			told[i] = scan.Found{At: -1}
		}
		checkRecords(t, "when an answer is written into", one, wanted)
		if !slices.Equal(later, wanted) {
			t.Error("P0.3: an answer of Records is another one's")
		}
	}
	if got := appended(t, s, l[0]); got[0] != 240 {
		t.Errorf("P0.3: Append when answers are written into: %v", got)
	}
}

// A nil segment is closed, whatever it is asked.
func TestNilSegment(t *testing.T) {
	var s *Seg
	for _, l := range [][]api.Record{nil, {}, {numbered(1, "a")}, {{}}, {of(other, numbered(1, ""))}} {
		got, err := s.Append(l)
		if len(got) != 0 || err != api.ErrClosed {
			t.Errorf("P8.1: Append to a nil segment: %v, error %d", got, err)
		}
	}
	for _, at := range []int{math.MinInt, -1, 0, 1, math.MaxInt} {
		checkRead(t, "of a nil segment", s, at, api.Record{}, api.ErrClosed)
	}
	want(t, "P8.1: Sync of a nil segment", s.Sync(), api.ErrClosed)
	if s.Size() != 0 || len(s.Records()) != 0 {
		t.Error("P8.1: a nil segment has something")
	}
}
