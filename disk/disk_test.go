package disk

import (
	"bytes"
	"fmt"
	"math"
	"slices"
	"strings"
	"testing"

	"stillroom/api"
)

// want fails if a call told another error than the promise names.
func want(t *testing.T, what string, got, wanted api.Errno) {
	t.Helper()
	if got != wanted {
		t.Errorf("%s: error %d, not %d", what, got, wanted)
	}
}

// do fails if one of the calls told an error.
func do(t *testing.T, errs ...api.Errno) {
	t.Helper()
	for i, err := range errs {
		if err != api.OK {
			t.Fatalf("call %d: error %d", i, err)
		}
	}
}

// textOf is a file, whole.
func textOf(t *testing.T, f *FS, name string) string {
	t.Helper()
	b, err := f.Read(name, 0, f.Size(name))
	if err != api.OK {
		t.Fatalf("Read of %q: error %d", name, err)
	}
	return string(b)
}

// filesOf is all files, a line each.
func filesOf(t *testing.T, f *FS) string {
	t.Helper()
	var b strings.Builder
	for _, name := range f.Names() {
		fmt.Fprintf(&b, "%s=%q\n", name, textOf(t, f, name))
	}
	return b.String()
}

// longName is as long as a name may be.
var longName = strings.Repeat("z", 32)

func isLetterDigitPoint(c int) bool {
	return strings.ContainsRune("abcdefghijklmnopqrstuvwxyzABCDEFGHIJKLMNOPQRSTUVWXYZ0123456789.", rune(c))
}

// Each byte at each of three places of a name, for Create and for Rename.
func TestNamesOfEachByte(t *testing.T) {
	for c := range 256 {
		for _, name := range []string{string([]byte{byte(c)}), "ab" + string([]byte{byte(c)}), "a" + string([]byte{byte(c)}) + "b"} {
			wanted := api.ErrForm
			if isLetterDigitPoint(c) {
				wanted = api.OK
			}
			f := New(100)
			want(t, fmt.Sprintf("P5.1: Create(%q)", name), f.Create(name), wanted)
			f = New(100)
			do(t, f.Create("from"))
			want(t, fmt.Sprintf("P5.1: Rename to %q", name), f.Rename("from", name), wanted)
		}
	}
}

func TestNamesOfEachLength(t *testing.T) {
	for n := range 100 {
		name := strings.Repeat("q", n)
		wanted := api.ErrForm
		if n >= 1 && n <= 32 {
			wanted = api.OK
		}
		f := New(100)
		want(t, fmt.Sprintf("P5.1: Create of %d bytes", n), f.Create(name), wanted)
		f = New(100)
		do(t, f.Create("from"))
		want(t, fmt.Sprintf("P5.1: Rename to %d bytes", n), f.Rename("from", name), wanted)
	}
	// It is the bytes that are counted, and none of them is a letter here.
	f := New(100)
	for _, name := range []string{"ä", "aé", "\u00b7", strings.Repeat("z", 31) + "ß", "a/b", "a-b", "a_b", strings.Repeat("a", 1<<20)} {
		want(t, fmt.Sprintf("P5.1: Create(%.40q)", name), f.Create(name), api.ErrForm)
	}
	if len(f.Names()) != 0 {
		t.Errorf("P5.1: an error makes a file: %q", f.Names())
	}
}

func TestNamesRise(t *testing.T) {
	f := New(0)
	for _, name := range []string{"b", "a.", "a", "Z", "0", "a0", "aa", ".", "aA", longName, "9", "10", "B"} {
		do(t, f.Create(name))
	}
	wanted := []string{".", "0", "10", "9", "B", "Z", "a", "a.", "a0", "aA", "aa", "b", longName}
	got := f.Names()
	if !slices.Equal(got, wanted) {
		t.Errorf("P5.1: Names: %q, not %q", got, wanted)
	}
	spare := got[:cap(got)]
	for i := range spare {
		spare[i] = "x"
	}
	if got := f.Names(); !slices.Equal(got, wanted) {
		t.Errorf("P0.3: Names hangs on what was done to another answer: %q", got)
	}
}

func TestCreate(t *testing.T) {
	f := New(1000)
	do(t, f.Create("a"))
	if f.Size("a") != 0 || f.Used() != 0 || textOf(t, f, "a") != "" {
		t.Error("P5.1: Create: not empty")
	}
	do(t, f.Write("a", 0, []byte("old")), f.Create("b"), f.Write("b", 0, []byte("xy")), f.Create("a"))
	if got := filesOf(t, f); got != "a=\"\"\nb=\"xy\"\n" {
		t.Errorf("P5.1: Create of what is there: %s", got)
	}
	if f.Used() != 2 {
		t.Errorf("P5.1: Used: %d", f.Used())
	}
}

func TestCreateAtMostFiles(t *testing.T) {
	f := New(1000)
	for i := range api.MaxFiles {
		want(t, fmt.Sprintf("P5.1: Create, %d", i), f.Create(fmt.Sprint("f", i)), api.OK)
	}
	want(t, "P5.1: Create of one more", f.Create("more"), api.ErrFull)
	want(t, "P5.1: Create of a wrong name", f.Create("mo/re"), api.ErrForm)
	want(t, "P5.1: Create of one that is there", f.Create("f17"), api.OK)
	want(t, "P5.1: Rename among many", f.Rename("f17", "other"), api.OK)
	want(t, "P5.1: Create of a name that went", f.Create("f17"), api.ErrFull)
	want(t, "P5.1: Rename to one that is there", f.Rename("other", "f18"), api.OK)
	want(t, "P5.1: Create behind that", f.Create("f17"), api.OK)
	want(t, "P5.1: Create of one more again", f.Create("more"), api.ErrFull)
	want(t, "P5.1: Remove", f.Remove("f3"), api.OK)
	want(t, "P5.1: Create behind a Remove", f.Create("more"), api.OK)
	if len(f.Names()) != api.MaxFiles {
		t.Errorf("P5.1: %d files", len(f.Names()))
	}
	// As it is now, not as it was synced, nor as a crash leaves it.
	do(t, f.SyncDir(), f.Remove("more"))
	want(t, "P5.1: Create ahead of SyncDir", f.Create("next"), api.OK)
	want(t, "P5.1: Create at another disk", f.Crash(1, nil, 0).Create("another"), api.OK)
	want(t, "P5.1: Create at another full disk", f.Crash(0, nil, 0).Create("another"), api.ErrFull)
}

func TestWritePlaces(t *testing.T) {
	for size := range 200 {
		old := bytes.Repeat([]byte("o"), size)
		for _, at := range []int{0, 1, 63, 64, 65, size - 1, size, size + 1, -1} {
			for _, n := range []int{0, 1, 2, 63, 64, 65, 130} {
				f := New(1000)
				do(t, f.Create("a"), f.Write("a", 0, old))
				part := bytes.Repeat([]byte("n"), n)
				wanted, err := string(old), api.OK
				if at < 0 || at > size {
					err = api.ErrRange
				} else {
					wanted = wanted[:at] + string(part) + wanted[min(at+n, size):]
				}
				what := fmt.Sprintf("P5.1: Write of %d at %d of %d", n, at, size)
				want(t, what, f.Write("a", at, part), err)
				if got := textOf(t, f, "a"); got != wanted || f.Size("a") != len(wanted) || f.Used() != len(wanted) {
					t.Fatalf("%s: %q, not %q", what, got, wanted)
				}
			}
		}
	}
}

func TestWriteErrors(t *testing.T) {
	f := New(10)
	do(t, f.Create("a"), f.Create("b"), f.Write("a", 0, []byte("1234")), f.Write("b", 0, []byte("56")))
	for _, name := range []string{"", "c", "A", "a ", "!", longName + "z"} {
		want(t, fmt.Sprintf("P5.1: Write to %q", name), f.Write(name, -1, make([]byte, 100)), api.ErrNotFound)
	}
	for _, at := range []int{math.MinInt, -64, -1, 5, 64, 1 << 32, math.MaxInt} {
		want(t, fmt.Sprintf("P5.1: Write at %d", at), f.Write("a", at, nil), api.ErrRange)
		want(t, fmt.Sprintf("P5.1: a long Write at %d", at), f.Write("a", at, make([]byte, 100)), api.ErrRange)
	}
	want(t, "P5.1: Write of too much", f.Write("a", 4, make([]byte, 5)), api.ErrFull)
	want(t, "P5.1: Write of too much from ahead of the end", f.Write("a", 2, []byte("xxxxxxx")), api.ErrFull)
	if got := filesOf(t, f); got != "a=\"1234\"\nb=\"56\"\n" || f.Dirty() != 2 {
		t.Errorf("P5.1: an error changes: %s", got)
	}
	want(t, "P5.1: Write of all there is", f.Write("a", 2, []byte("xxxxxx")), api.OK)
	want(t, "P5.1: Write at a full disk", f.Write("b", 2, []byte("y")), api.ErrFull)
	want(t, "P5.1: Write of nothing at a full disk", f.Write("b", 2, nil), api.OK)
	want(t, "P5.1: Write in the midst at a full disk", f.Write("b", 0, []byte("yy")), api.OK)
	if got := filesOf(t, f); got != "a=\"12xxxxxx\"\nb=\"yy\"\n" || f.Used() != 10 {
		t.Errorf("P5.1: Write: %s", got)
	}
}

// What the list held behind its end, or holds later on, is not the disk's.
func TestWriteLeavesItsList(t *testing.T) {
	f := New(1000)
	room := bytes.Repeat([]byte("abcdefgh"), 20)
	before := bytes.Clone(room)
	do(t, f.Create("a"), f.Write("a", 0, room[:70]), f.Write("a", 70, room[:5]), f.Write("a", 3, room[:66]), f.Sync("a"), f.SyncDir())
	wanted := textOf(t, f, "a")
	d := f.Crash(0, nil, 0)
	if !bytes.Equal(room, before) {
		t.Fatal("P0.3: a list or its spare room is changed")
	}
	clear(room)
	if textOf(t, f, "a") != wanted || textOf(t, d, "a") != wanted {
		t.Error("P0.3: a list is kept")
	}
}

func TestRoomEnds(t *testing.T) {
	tests := []struct{ room, wanted int }{
		{math.MinInt, 0}, {-1, 0}, {0, 0}, {1, 1}, {63, 63}, {1000, 1000},
		{api.MaxDisk - 1, api.MaxDisk - 1}, {api.MaxDisk, api.MaxDisk}, {api.MaxDisk + 1, api.MaxDisk},
		{1 << 32, api.MaxDisk}, {math.MaxInt, api.MaxDisk},
	}
	for _, c := range tests {
		later := New(77)
		later.Room(c.room)
		for _, f := range []*FS{New(c.room), later, later.Crash(0, nil, 0)} {
			do(t, f.Create("a"), f.Create("b"))
			what := fmt.Sprintf("P5.1: a room of %d", c.room)
			want(t, what+": too much at once", f.Write("a", 0, make([]byte, c.wanted+1)), api.ErrFull)
			want(t, what+": all", f.Write("a", 0, make([]byte, c.wanted)), api.OK)
			want(t, what+": more", f.Write("b", 0, make([]byte, 1)), api.ErrFull)
			want(t, what+": nothing", f.Write("b", 0, nil), api.OK)
			if f.Used() != c.wanted || f.Size("a") != c.wanted {
				t.Errorf("%s: Used %d", what, f.Used())
			}
		}
	}
}

func TestRoomBelowWhatIsUsed(t *testing.T) {
	f := New(100)
	do(t, f.Create("a"), f.Write("a", 0, make([]byte, 100)), f.Create("b"))
	f.Room(50)
	want(t, "P5.2: Write in the midst", f.Write("a", 99, []byte("x")), api.OK)
	want(t, "P5.2: Write that grows", f.Write("a", 99, []byte("xx")), api.ErrFull)
	want(t, "P5.2: Write to another file", f.Write("b", 0, []byte("x")), api.ErrFull)
	want(t, "P5.2: Write of nothing", f.Write("a", 100, nil), api.OK)
	do(t, f.Rename("b", "a"))
	want(t, "P5.2: Write when the long one is gone", f.Write("a", 0, make([]byte, 50)), api.OK)
	want(t, "P5.2: Write of more", f.Write("a", 50, []byte("x")), api.ErrFull)
	f.Room(51)
	want(t, "P5.2: Write in a greater room", f.Write("a", 50, []byte("x")), api.OK)
	do(t, f.Remove("a"), f.Create("c"))
	want(t, "P5.2: Write behind a Remove", f.Write("c", 0, make([]byte, 51)), api.OK)
	do(t, f.Create("c"))
	want(t, "P5.2: Write behind a Create of the same", f.Write("c", 0, make([]byte, 51)), api.OK)
	if f.Used() != 51 || f.Calls() != 16 {
		t.Errorf("P5.2: Used %d, Calls %d", f.Used(), f.Calls())
	}
}

func TestRenameAndRemove(t *testing.T) {
	f := New(1000)
	do(t, f.Create("a"), f.Write("a", 0, []byte("1")), f.Create("b"), f.Write("b", 0, []byte("22")))
	want(t, "P5.1: Rename of none", f.Rename("c", "d"), api.ErrNotFound)
	want(t, "P5.1: Rename of none to a wrong name", f.Rename("c", "d d"), api.ErrNotFound)
	want(t, "P5.1: Rename of a wrong name to itself", f.Rename("d d", "d d"), api.ErrNotFound)
	want(t, "P5.1: Rename of no name", f.Rename("", "d"), api.ErrNotFound)
	want(t, "P5.1: Rename to no name", f.Rename("a", ""), api.ErrForm)
	want(t, "P5.1: Rename to a wrong name", f.Rename("a", "a b"), api.ErrForm)
	want(t, "P5.1: Remove of none", f.Remove("c"), api.ErrNotFound)
	want(t, "P5.1: Remove of no name", f.Remove(""), api.ErrNotFound)
	want(t, "P5.1: Remove of a wrong name", f.Remove("a b"), api.ErrNotFound)
	want(t, "P5.1: Sync of none", f.Sync("c"), api.ErrNotFound)
	want(t, "P5.1: Sync of no name", f.Sync(""), api.ErrNotFound)
	if got := filesOf(t, f); got != "a=\"1\"\nb=\"22\"\n" {
		t.Errorf("P5.1: an error changes: %s", got)
	}
	want(t, "P5.1: Rename to the same", f.Rename("a", "a"), api.OK)
	if got := filesOf(t, f); got != "a=\"1\"\nb=\"22\"\n" {
		t.Errorf("P5.1: Rename to the same: %s", got)
	}
	want(t, "P5.1: Rename", f.Rename("a", longName), api.OK)
	if got := filesOf(t, f); got != "b=\"22\"\n"+longName+"=\"1\"\n" || f.Used() != 3 {
		t.Errorf("P5.1: Rename: %s", got)
	}
	want(t, "P5.1: Rename to one that is there", f.Rename(longName, "b"), api.OK)
	if got := filesOf(t, f); got != "b=\"1\"\n" || f.Used() != 1 {
		t.Errorf("P5.1: Rename to one that is there: %s", got)
	}
	want(t, "P5.1: Remove", f.Remove("b"), api.OK)
	want(t, "P5.1: Remove again", f.Remove("b"), api.ErrNotFound)
	if len(f.Names()) != 0 || f.Used() != 0 || f.Size("b") != -1 {
		t.Errorf("P5.1: Remove: %q", f.Names())
	}
	want(t, "P5.1: Write to one that is gone", f.Write("b", 0, nil), api.ErrNotFound)
}

func TestReadPlaces(t *testing.T) {
	f := New(1000)
	text := strings.Repeat("0123456789abcdef", 9)
	do(t, f.Create("a"), f.Write("a", 0, []byte(text)), f.Create("e"))
	reads := 0
	for at := -3; at <= len(text)+3; at++ {
		for n := -3; n <= len(text)+3; n++ {
			b, err := f.Read("a", at, n)
			if at < 0 || n < 0 || at+n > len(text) {
				if err != api.ErrRange || len(b) != 0 {
					t.Fatalf("P5.1: Read of %d at %d: %q, error %d", n, at, b, err)
				}
				continue
			}
			reads += n
			if err != api.OK || string(b) != text[at:at+n] {
				t.Fatalf("P5.1: Read of %d at %d: %q, error %d", n, at, b, err)
			}
		}
	}
	for _, far := range []int{math.MinInt, -1 << 32, 1 << 32, math.MaxInt - 1, math.MaxInt} {
		for _, near := range []int{0, 1, 100, far} {
			_, err := f.Read("a", far, near)
			want(t, fmt.Sprintf("P5.1: Read of %d at %d", near, far), err, api.ErrRange)
			_, err = f.Read("a", near, far)
			want(t, fmt.Sprintf("P5.1: Read of %d at %d", far, near), err, api.ErrRange)
		}
	}
	for _, name := range []string{"", "b", "A", "a b"} {
		b, err := f.Read(name, -1, -1)
		if err != api.ErrNotFound || len(b) != 0 {
			t.Errorf("P5.1: Read of %q: %q, error %d", name, b, err)
		}
	}
	if b, err := f.Read("e", 0, 0); err != api.OK || len(b) != 0 {
		t.Errorf("P5.1: Read of an empty file: %q, error %d", b, err)
	}
	if f.Reads() != reads || f.Calls() != 3 {
		t.Errorf("P5.2: Reads %d, not %d; Calls %d", f.Reads(), reads, f.Calls())
	}
}

// Who writes into what Read gave, its spare room too, changes nothing else.
func TestReadAnswersNewMemory(t *testing.T) {
	f := New(1000)
	text := strings.Repeat("0123456789", 10)
	do(t, f.Create("a"), f.Write("a", 0, []byte(text)), f.Sync("a"), f.SyncDir())
	d := f.Crash(0, nil, -1)
	for _, one := range []*FS{f, d} {
		for _, n := range []int{0, 1, 50, 100} {
			first, _ := one.Read("a", 0, n)
			second, _ := one.Read("a", 0, n)
			spare := first[:cap(first)]
			for i := range spare {
				spare[i] = '!'
			}
			if string(second) != text[:n] {
				t.Errorf("P0.3: Read of %d shares with another answer", n)
			}
		}
	}
	if textOf(t, f, "a") != text || textOf(t, d, "a") != text || textOf(t, f.Crash(0, nil, -1), "a") != text {
		t.Error("P0.3: Read shares with the disk")
	}
}

func TestSize(t *testing.T) {
	f := New(1000)
	do(t, f.Create("a"), f.Write("a", 0, make([]byte, 65)))
	for name, wanted := range map[string]int{"a": 65, "b": -1, "": -1, "A": -1, "a ": -1, longName + "z": -1} {
		if got := f.Size(name); got != wanted {
			t.Errorf("P5.1: Size of %q: %d, not %d", name, got, wanted)
		}
	}
}

// changing makes each of the changing calls in a way that goes well at a disk
// that prepared made.
var changing = []struct {
	name string
	call func(f *FS) api.Errno
}{
	{"Create", func(f *FS) api.Errno { return f.Create("new") }},
	{"Create of one that is there", func(f *FS) api.Errno { return f.Create("a") }},
	{"Write", func(f *FS) api.Errno { return f.Write("a", 1, []byte("zz")) }},
	{"Sync", func(f *FS) api.Errno { return f.Sync("a") }},
	{"SyncDir", func(f *FS) api.Errno { return f.SyncDir() }},
	{"Rename", func(f *FS) api.Errno { return f.Rename("a", "b") }},
	{"Remove", func(f *FS) api.Errno { return f.Remove("a") }},
}

// wrong makes changing calls that tell an error.
var wrong = []struct {
	name string
	call func(f *FS) api.Errno
	err  api.Errno
}{
	{"Create", func(f *FS) api.Errno { return f.Create("a/b") }, api.ErrForm},
	{"Write to none", func(f *FS) api.Errno { return f.Write("none", 0, nil) }, api.ErrNotFound},
	{"Write", func(f *FS) api.Errno { return f.Write("a", -1, nil) }, api.ErrRange},
	{"Write of too much", func(f *FS) api.Errno { return f.Write("a", 0, make([]byte, 101)) }, api.ErrFull},
	{"Sync", func(f *FS) api.Errno { return f.Sync("none") }, api.ErrNotFound},
	{"Rename", func(f *FS) api.Errno { return f.Rename("none", "b") }, api.ErrNotFound},
	{"Rename to", func(f *FS) api.Errno { return f.Rename("a", "") }, api.ErrForm},
	{"Remove", func(f *FS) api.Errno { return f.Remove("none") }, api.ErrNotFound},
}

// preparedCalls is how many changing calls prepared makes.
const preparedCalls = 8

// prepared is a disk whose file a has two dirty sectors and whose directory has
// two changes that wait.
func prepared(t *testing.T) *FS {
	t.Helper()
	f := New(100)
	do(t, f.Create("a"), f.Write("a", 0, []byte("abc")), f.Sync("a"), f.SyncDir())
	do(t, f.Write("a", 0, make([]byte, 65)), f.Create("b"), f.Write("b", 0, []byte("b")), f.Create("c"))
	return f
}

// stateOf is all that can be seen of a disk but its counts of calls.
func stateOf(t *testing.T, f *FS) string {
	t.Helper()
	all := []bool{true, true, true, true, true}
	s := filesOf(t, f) + fmt.Sprintln(f.Used(), f.Dirty())
	for n := range 5 {
		for torn := -1; torn < 4; torn++ {
			s += filesOf(t, f.Crash(n, nil, torn)) + "\n" + filesOf(t, f.Crash(n, all, torn)) + "\n"
		}
	}
	return s
}

func TestFailIsAheadOfAllElse(t *testing.T) {
	for _, c := range changing {
		f := prepared(t)
		before := stateOf(t, f)
		f.Fail(0)
		want(t, "P5.2: "+c.name+" that fails", c.call(f), api.ErrIO)
		if stateOf(t, f) != before {
			t.Errorf("P5.2: %s that fails changes something", c.name)
		}
		want(t, "P5.2: "+c.name+" behind that", c.call(f), api.OK)
		if stateOf(t, f) == before {
			t.Errorf("%s changes nothing: the test is blind", c.name)
		}
		if f.Calls() != preparedCalls+2 {
			t.Errorf("P5.2: %s: Calls %d", c.name, f.Calls())
		}
	}
	for _, c := range wrong {
		f := prepared(t)
		f.Fail(0)
		want(t, "P5.2: a wrong "+c.name+" that fails", c.call(f), api.ErrIO)
		want(t, "P5.2: a wrong "+c.name+" behind that", c.call(f), c.err)
		if f.Calls() != preparedCalls+2 {
			t.Errorf("P5.2: a wrong %s: Calls %d", c.name, f.Calls())
		}
	}
}

func TestErrorsChangeNothing(t *testing.T) {
	for _, c := range wrong {
		f := prepared(t)
		before := stateOf(t, f)
		want(t, "P5.1: a wrong "+c.name, c.call(f), c.err)
		if stateOf(t, f) != before {
			t.Errorf("P5.1: a wrong %s changes something", c.name)
		}
	}
}

func TestFailAtEachPlace(t *testing.T) {
	for n := range 20 {
		f := prepared(t)
		f.Fail(n)
		for i := range 20 {
			// Those that tell an error count as well, those that change
			// nothing do not.
			f.Read("a", 0, 1)
			f.Size("a")
			f.Names()
			f.Used()
			f.Dirty()
			f.Room(70 + i)
			f.Crash(0, nil, 0)
			w := wrong[i%len(wrong)]
			wanted := w.err
			if i == n {
				wanted = api.ErrIO
			}
			want(t, fmt.Sprintf("P5.2: Fail(%d), call %d", n, i), w.call(f), wanted)
			if f.Calls() != preparedCalls+i+1 {
				t.Fatalf("P5.2: Calls %d", f.Calls())
			}
		}
	}
}

// told makes n calls and tells which of them fail.
func told(f *FS, n int) string {
	s := ""
	for range n {
		if f.SyncDir() == api.ErrIO {
			s += "x"
		} else {
			s += "."
		}
	}
	return s
}

func TestFailTakesThePlaceOfAnother(t *testing.T) {
	tests := []struct {
		fails []int
		want  string
	}{
		{nil, "........"},
		{[]int{0}, "x......."},
		{[]int{7}, ".......x"},
		{[]int{8}, "........"},
		{[]int{1, 5}, ".....x.."},
		{[]int{5, 1}, ".x......"},
		{[]int{0, -1}, "........"},
		{[]int{3, math.MinInt}, "........"},
		{[]int{-1}, "........"},
		{[]int{-2, 2}, "..x....."},
		{[]int{math.MinInt, 0}, "x......."},
		{[]int{math.MaxInt}, "........"},
		{[]int{0, math.MaxInt}, "........"},
		{[]int{0, 0}, "x......."},
	}
	for _, c := range tests {
		f := New(0)
		for _, n := range c.fails {
			f.Fail(n)
		}
		if got := told(f, 8); got != c.want {
			t.Errorf("P5.2: Fail of %v: %s, not %s", c.fails, got, c.want)
		}
	}
	f := New(0)
	f.Fail(4)
	if got := told(f, 3); got != "..." {
		t.Errorf("P5.2: Fail: %s", got)
	}
	f.Fail(4) // from now on
	if got := told(f, 6); got != "....x." {
		t.Errorf("P5.2: Fail from now on: %s", got)
	}
	f.Fail(1)
	if got := told(f, 3) + told(f.Crash(0, nil, 0), 3); got != ".x...." {
		t.Errorf("P5.2: Fail again: %s", got)
	}
}

func TestNilDisk(t *testing.T) {
	var f *FS
	want(t, "P5.3: Create", f.Create("a"), api.ErrNotFound)
	want(t, "P5.3: Create of a wrong name", f.Create(""), api.ErrNotFound)
	want(t, "P5.3: Write", f.Write("a", -1, []byte("x")), api.ErrNotFound)
	want(t, "P5.3: Sync", f.Sync("a"), api.ErrNotFound)
	want(t, "P5.3: SyncDir", f.SyncDir(), api.ErrNotFound)
	want(t, "P5.3: Rename", f.Rename("a", ""), api.ErrNotFound)
	want(t, "P5.3: Remove", f.Remove("a"), api.ErrNotFound)
	b, err := f.Read("a", -1, -1)
	want(t, "P5.3: Read", err, api.ErrNotFound)
	f.Fail(0)
	f.Room(1)
	if len(b) != 0 || f.Size("a") != -1 || len(f.Names()) != 0 {
		t.Error("P5.3: a nil disk has something")
	}
	if f.Used() != 0 || f.Calls() != 0 || f.Reads() != 0 || f.Dirty() != 0 {
		t.Error("P5.3: a nil disk counts something")
	}
	if f.Crash(-1, nil, 0) != nil || f.Crash(1, []bool{true}, 0) != nil {
		t.Error("P5.3: a nil disk's Crash is a disk")
	}
}
