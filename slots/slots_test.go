package slots

import (
	"bytes"
	"encoding/binary"
	"encoding/hex"
	"fmt"
	"hash/crc32"
	"slices"
	"strings"
	"testing"

	"stillroom/api"
	"stillroom/disk"
)

const room = 1 << 20

// pattern makes n bytes that do not repeat soon.
func pattern(n int) string {
	b := make([]byte, n)
	x := uint32(12345)
	for i := range b {
		x = x*1664525 + 1013904223
		b[i] = byte(x >> 24)
	}
	return string(b)
}

// headed is a slot's head and text, with a length that need not be the text's.
func headed(turn uint64, length uint32, text string) []byte {
	b := binary.BigEndian.AppendUint64(nil, turn)
	b = binary.BigEndian.AppendUint32(b, length)
	sum := crc32.Checksum(append(slices.Clone(b), text...), crc32.MakeTable(crc32.Castagnoli))
	return append(binary.BigEndian.AppendUint32(b, sum), text...)
}

// slotOf is a slot up to the end of its text.
func slotOf(turn uint64, text string) []byte {
	return headed(turn, uint32(len(text)), text)
}

// fileOf is a file of two slots, with other bytes behind their texts.
func fileOf(first, second []byte) []byte {
	all := bytes.Repeat([]byte("?"), 2*api.SlotSize)
	copy(all, first)
	copy(all[api.SlotSize:], second)
	return all
}

func want(t *testing.T, what string, got, wanted api.Errno) {
	t.Helper()
	if got != wanted {
		t.Errorf("%s: error %d, not %d", what, got, wanted)
	}
}

func do(t *testing.T, errs ...api.Errno) {
	t.Helper()
	for i, err := range errs {
		if err != api.OK {
			t.Fatalf("call %d: error %d", i, err)
		}
	}
}

// textOf is a file's bytes.
func textOf(t *testing.T, f *disk.FS, name string) string {
	t.Helper()
	b, err := f.Read(name, 0, f.Size(name))
	if err != api.OK {
		t.Fatalf("no file %s: error %d", name, err)
	}
	return string(b)
}

// filesOf is all files and what changed of the disk beside them.
func filesOf(t *testing.T, f *disk.FS) string {
	t.Helper()
	told := fmt.Sprint(f.Calls(), f.Dirty())
	for _, name := range f.Names() {
		told += fmt.Sprintf(" %s %q", name, textOf(t, f, name))
	}
	return told
}

// holds compares what a File tells.
func holds(t *testing.T, what string, s *File, text string, turn uint64) {
	t.Helper()
	if s == nil {
		t.Fatalf("P9.1: %s: no File", what)
	}
	if got := s.Text(); string(got) != text {
		t.Errorf("P9.1: %s: the text is %d bytes %.20q, not %d bytes %.20q", what, len(got), got, len(text), text)
	}
	if got := s.Turn(); got != turn {
		t.Errorf("P9.1: %s: turn %d, not %d", what, got, turn)
	}
}

// created is a new file a.
func created(t *testing.T, f *disk.FS, text string) *File {
	t.Helper()
	s, err := Create(f, "a", []byte(text))
	if s == nil || err != api.OK {
		t.Fatalf("P9.1: Create: error %d", err)
	}
	return s
}

// laid is a disk of its own, on which a has these bytes, and they last.
func laid(t *testing.T, b []byte) *disk.FS {
	t.Helper()
	f := disk.New(room)
	do(t, f.Create("a"), f.Write("a", 0, b), f.Sync("a"), f.SyncDir())
	return f
}

// opens holds what Open of a tells.
func opens(t *testing.T, what string, f *disk.FS, text string, turn uint64) *File {
	t.Helper()
	before := filesOf(t, f)
	s, err := Open(f, "a")
	want(t, "P9.1: Open "+what, err, api.OK)
	holds(t, "Open "+what, s, text, turn)
	if filesOf(t, f) != before {
		t.Errorf("P9.1: Open %s changes the disk", what)
	}
	return s
}

// corrupt holds an Open that finds no whole slot.
func corrupt(t *testing.T, what string, f *disk.FS) {
	t.Helper()
	before := filesOf(t, f)
	s, err := Open(f, "a")
	want(t, "P9.1: Open "+what, err, api.ErrCorrupt)
	if s != nil {
		t.Errorf("P9.1: Open %s: a File beside an error", what)
	}
	if filesOf(t, f) != before {
		t.Errorf("P9.1: Open %s changes the disk", what)
	}
}

// The sums among these digits were reckoned a bit at a time, by no package.
func TestKnownBytes(t *testing.T) {
	if api.SlotSize != 4096 {
		t.Fatal("P9.1: a slot has 4,096 bytes")
	}
	for _, one := range []struct {
		text  string
		first string
	}{
		{"", "0000000000000001" + "00000000" + "1371daf1"},
		{"one", "0000000000000001" + "00000003" + "32e0319d" + "6f6e65"},
	} {
		f := disk.New(room)
		created(t, f, one.text)
		got := textOf(t, f, "a")
		if first := hex.EncodeToString([]byte(got[:16+len(one.text)])); first != one.first {
			t.Errorf("P9.1: the first slot of %q is %s, not %s", one.text, first, one.first)
		}
		if len(got) != 8192 {
			t.Errorf("P9.1: the file has %d bytes", len(got))
		}
	}
}

func TestCreate(t *testing.T) {
	for _, n := range []int{0, 1, 2, 47, 48, 49, 255, 256, 257, 1000, 4079, 4080} {
		what := fmt.Sprintf("Create of %d bytes", n)
		text := pattern(n)
		f := disk.New(2 * api.SlotSize)
		s := created(t, f, text)
		holds(t, what, s, text, 1)
		if f.Calls() != 5 || f.Dirty() != 0 || !slices.Equal(f.Names(), []string{"a"}) || f.Size("a") != 8192 {
			t.Errorf("P9.1: %s: %d calls, %d dirty, files %q, %d bytes", what, f.Calls(), f.Dirty(), f.Names(), f.Size("a"))
		}
		if !strings.HasPrefix(textOf(t, f, "a"), string(slotOf(1, text))) {
			t.Errorf("P9.1: %s: other bytes", what)
		}
		opens(t, what, f, text, 1)
		opens(t, what+" behind a crash", f.Crash(0, nil, -1), text, 1)
	}
}

func TestCreateNil(t *testing.T) {
	f := disk.New(room)
	s, err := Create(f, "a", nil)
	want(t, "P9.1: Create of nil", err, api.OK)
	holds(t, "Create of nil", s, "", 1)
	opens(t, "of nil", f, "", 1)
}

// refuses holds a Create that makes no changing call.
func refuses(t *testing.T, what string, f *disk.FS, name string, b []byte, wanted api.Errno) {
	t.Helper()
	before := filesOf(t, f)
	s, err := Create(f, name, b)
	want(t, "P9.1: Create "+what, err, wanted)
	if s != nil {
		t.Errorf("P9.1: Create %s: a File beside an error", what)
	}
	if filesOf(t, f) != before {
		t.Errorf("P9.1: Create %s changes the disk", what)
	}
}

func TestCreateErrorsInOrder(t *testing.T) {
	f := disk.New(room)
	long, far := make([]byte, 4081), make([]byte, 100000)
	refuses(t, "too large", f, "a", long, api.ErrTooLarge)
	refuses(t, "far too large", f, "a", far, api.ErrTooLarge)
	refuses(t, "too large, a wrong name", f, "-", long, api.ErrTooLarge)
	refuses(t, "too large, no disk", nil, "a", long, api.ErrTooLarge)
	refuses(t, "no disk", nil, "a", nil, api.ErrNotFound)
	created(t, f, "one")
	refuses(t, "too large, there", f, "a", long, api.ErrTooLarge)
	refuses(t, "there", f, "a", []byte("two"), api.ErrExists)
	f.Fail(0)
	refuses(t, "there, failing", f, "a", []byte("two"), api.ErrExists)
	f.Room(0)
	refuses(t, "there, no room", f, "a", []byte("two"), api.ErrExists)
	f.Fail(-1)
	f.Room(room)
	do(t, f.Create("empty"))
	refuses(t, "there as any file", f, "empty", nil, api.ErrExists)
	opens(t, "behind refused ones", f, "one", 1)
}

// A file that was removed, or that only waits to be gone, is none.
func TestCreateAnew(t *testing.T) {
	f := disk.New(room)
	created(t, f, "one")
	do(t, f.Remove("a"))
	created(t, f, "two")
	opens(t, "made anew", f, "two", 1)
	opens(t, "made anew behind a crash", f.Crash(0, nil, -1), "two", 1)
}

func TestCreateOfNamesThatMayNotBe(t *testing.T) {
	for _, name := range []string{"", "-", "a b", "a/b", "ä", strings.Repeat("a", 33), "a\x00"} {
		f := disk.New(room)
		s, err := Create(f, name, []byte("x"))
		want(t, fmt.Sprintf("P9.1: Create %q", name), err, api.ErrForm)
		if s != nil || f.Calls() != 4 || !slices.Equal(f.Names(), []string{"NEW"}) || f.Dirty() != 0 {
			t.Errorf("P9.1: Create %q: %d calls, files %q, %d dirty", name, f.Calls(), f.Names(), f.Dirty())
		}
		if got := textOf(t, f, "NEW"); len(got) != 8192 || !strings.HasPrefix(got, string(slotOf(1, "x"))) {
			t.Errorf("P9.1: Create %q: NEW has other bytes", name)
		}
		if s, err := Open(f, name); s != nil || err != api.ErrNotFound {
			t.Errorf("P9.1: Open %q: error %d", name, err)
		}
	}
	for _, name := range []string{"a", "Z9.", ".", strings.Repeat("a", 32), "NEW", "MAN"} {
		f := disk.New(room)
		s, err := Create(f, name, []byte("x"))
		want(t, fmt.Sprintf("P9.1: Create %q", name), err, api.OK)
		holds(t, name, s, "x", 1)
		if f.Calls() != 5 || !slices.Equal(f.Names(), []string{name}) {
			t.Errorf("P9.1: Create %q: %d calls, files %q", name, f.Calls(), f.Names())
		}
		do(t, s.Save([]byte("y")))
		s, err = Open(f.Crash(0, nil, -1), name)
		want(t, fmt.Sprintf("P9.1: Open %q", name), err, api.OK)
		holds(t, name, s, "y", 2)
	}
}

// What an elder Create left is of no consequence.
func TestCreateOverNew(t *testing.T) {
	f := disk.New(room)
	do(t, f.Create("NEW"), f.Write("NEW", 0, []byte(pattern(9000))), f.Sync("NEW"), f.SyncDir())
	created(t, f, "one")
	if !slices.Equal(f.Names(), []string{"a"}) || f.Size("a") != 8192 {
		t.Errorf("P9.1: files %q, %d bytes", f.Names(), f.Size("a"))
	}
	opens(t, "over an elder NEW", f, "one", 1)
	do(t, f.Create("NEW"))
	refuses(t, "NEW that is there", f, "NEW", nil, api.ErrExists)
}

func TestCreateFailsAtEachCall(t *testing.T) {
	whole := string(slotOf(1, "x"))
	for fail := range 6 {
		what := fmt.Sprintf("Create whose call %d fails", fail)
		f := disk.New(room)
		do(t, f.Create("old"), f.SyncDir())
		calls := f.Calls()
		f.Fail(fail)
		s, err := Create(f, "a", []byte("x"))
		if fail == 5 {
			want(t, "P9.1: "+what, err, api.OK)
			continue
		}
		want(t, "P9.1: "+what, err, api.ErrIO)
		if s != nil {
			t.Errorf("P9.1: %s: a File beside an error", what)
		}
		if f.Calls() != calls+fail+1 {
			t.Errorf("P9.1: %s: %d calls", what, f.Calls()-calls)
		}
		names := [][]string{{"old"}, {"NEW", "old"}, {"NEW", "old"}, {"NEW", "old"}, {"a", "old"}}[fail]
		if !slices.Equal(f.Names(), names) {
			t.Errorf("P9.1: %s: files %q", what, f.Names())
		}
		if fail >= 2 && !strings.HasPrefix(textOf(t, f, names[0]), whole) {
			t.Errorf("P9.1: %s: what was done does not stay", what)
		}
		if lasts := f.Dirty() == 0; lasts != (fail != 2) {
			t.Errorf("P9.1: %s: %d dirty", what, f.Dirty())
		}
		if fail < 4 {
			opens(t, what+", and once more", secondTry(t, f), "x", 1)
		}
	}
}

// secondTry is the disk with another Create behind one that failed.
func secondTry(t *testing.T, f *disk.FS) *disk.FS {
	t.Helper()
	created(t, f, "x")
	return f.Crash(0, nil, -1)
}

func TestCreateWithoutRoom(t *testing.T) {
	f := disk.New(8191)
	s, err := Create(f, "a", nil)
	want(t, "P9.1: Create without room", err, api.ErrFull)
	if s != nil || f.Calls() != 2 || !slices.Equal(f.Names(), []string{"NEW"}) || f.Size("NEW") != 0 {
		t.Errorf("P9.1: Create without room: %d calls, files %q", f.Calls(), f.Names())
	}
	f = disk.New(room)
	for i := range api.MaxFiles {
		do(t, f.Create(fmt.Sprint(i)))
	}
	s, err = Create(f, "a", nil)
	want(t, "P9.1: Create beside 400 files", err, api.ErrFull)
	if s != nil || f.Calls() != api.MaxFiles+1 || len(f.Names()) != api.MaxFiles {
		t.Errorf("P9.1: Create beside 400 files: %d calls, %d files", f.Calls(), len(f.Names()))
	}
}

// A crash leaves no file, or a whole one, wherever Create was.
func TestCreateCrashes(t *testing.T) {
	text := pattern(100)
	for fail := range 6 {
		f := disk.New(room)
		f.Fail(fail)
		_, err := Create(f, "a", []byte(text))
		for n := range 4 {
			for keep := range 8 {
				for torn := -1; torn < 3; torn++ {
					g := f.Crash(n, []bool{keep&1 > 0, keep&2 > 0, keep&4 > 0}, torn)
					if err != api.OK && g.Size("a") < 0 {
						continue
					}
					opens(t, fmt.Sprintf("fail %d, crash %d, %d, %d", fail, n, keep, torn), g, text, 1)
				}
			}
		}
	}
}

func TestOpenOfNone(t *testing.T) {
	f := disk.New(room)
	for _, g := range []*disk.FS{nil, f} {
		for _, name := range []string{"a", "", "-", "NEW"} {
			s, err := Open(g, name)
			want(t, fmt.Sprintf("P9.1: Open %q", name), err, api.ErrNotFound)
			if s != nil {
				t.Errorf("P9.1: Open %q: a File beside an error", name)
			}
		}
	}
	created(t, f, "x")
	do(t, f.Rename("a", "b"))
	if s, err := Open(f, "a"); s != nil || err != api.ErrNotFound {
		t.Errorf("P9.1: Open of a renamed one: error %d", err)
	}
}

func TestOpenChooses(t *testing.T) {
	const top = 1<<64 - 1
	broken := slotOf(9, "broken")
	broken[15]++
	for _, one := range []struct {
		what          string
		first, second []byte
		text          string
		turn          uint64
		slot          int
	}{
		{"the first is greater", slotOf(2, "one"), slotOf(1, "two"), "one", 2, 0},
		{"the second is greater", slotOf(1, "one"), slotOf(2, "two"), "two", 2, 1},
		{"equal", slotOf(3, "one"), slotOf(3, "two"), "one", 3, 0},
		{"both 0", slotOf(0, "one"), slotOf(0, "two"), "one", 0, 0},
		{"0 and 1", slotOf(0, "one"), slotOf(1, "two"), "two", 1, 1},
		{"the first alone", slotOf(2, "one"), broken, "one", 2, 0},
		{"the second alone", broken, slotOf(2, "two"), "two", 2, 1},
		{"the first alone, 0", slotOf(0, "one"), broken, "one", 0, 0},
		{"the second alone, 0", broken, slotOf(0, "two"), "two", 0, 1},
		{"far apart", slotOf(top, "one"), slotOf(1, "two"), "one", top, 0},
		{"as with a sign", slotOf(1, "one"), slotOf(1<<63, "two"), "two", 1 << 63, 1},
		{"all bytes of a turn", slotOf(0x0102030405060708, "one"), slotOf(0x0102030405060709, "two"), "two", 0x0102030405060709, 1},
		{"the highest byte", slotOf(0x0200000000000000, "one"), slotOf(0x01ffffffffffffff, "two"), "one", 0x0200000000000000, 0},
		{"beyond 2^40", slotOf(1<<40+1, "one"), slotOf(1<<40, "two"), "one", 1<<40 + 1, 0},
		{"empty ones", slotOf(1, ""), slotOf(2, ""), "", 2, 1},
		{"full ones", slotOf(2, pattern(4080)), slotOf(1, pattern(4080)), pattern(4080), 2, 0},
		{"a full one behind", slotOf(1, pattern(4080)), slotOf(2, pattern(4080)), pattern(4080), 2, 1},
		{"nothing ahead", nil, slotOf(2, "two"), "two", 2, 1},
		{"nothing behind", slotOf(2, "one"), make([]byte, 4096), "one", 2, 0},
	} {
		f := laid(t, fileOf(one.first, one.second))
		s := opens(t, one.what, f, one.text, one.turn)
		if one.turn >= 1<<40 {
			continue
		}
		do(t, s.Save([]byte("three")))
		next := slotOf(one.turn+1, "three")
		if got := textOf(t, f, "a"); got[(1-one.slot)*4096:][:len(next)] != string(next) {
			t.Errorf("P9.1: %s: Save went elsewhere", one.what)
		}
		opens(t, one.what+", saved", f, "three", one.turn+1)
	}
}

// A slot whose length goes beyond it is not whole, be its sum right.
func TestLengths(t *testing.T) {
	long := pattern(4081)
	for _, one := range []struct {
		what  string
		first []byte
	}{
		{"4,081 bytes, all there", headed(5, 4081, long)},
		{"4,081 bytes, the slot's summed", headed(5, 4081, long[:4080])},
		{"8,176 bytes, all there", headed(5, 8176, pattern(8176))},
		{"8,177 bytes", headed(5, 8177, pattern(8176))},
		{"2^32 - 1", headed(5, 1<<32-1, "")},
		{"2^31", headed(5, 1<<31, "")},
		{"2^31 + 3", headed(5, 1<<31+3, "one")},
		{"2^16 + 3", headed(5, 1<<16+3, "one")},
		{"one more than summed", headed(5, 4, "one")},
		{"one less than summed", headed(5, 2, "one")},
		{"none, but summed", headed(5, 0, "one")},
	} {
		all := fileOf(nil, nil)
		copy(all, one.first)
		corrupt(t, one.what, laid(t, all))
		if len(one.first) > api.SlotSize {
			continue
		}
		opens(t, one.what+" in the first slot", laid(t, fileOf(one.first, slotOf(1, "two"))), "two", 1)
		opens(t, one.what+" in the second slot", laid(t, fileOf(slotOf(1, "two"), one.first)), "two", 1)
	}
	for n := range 4081 {
		if n > 70 && n < 4000 && n%97 > 0 {
			continue
		}
		opens(t, fmt.Sprintf("%d bytes", n), laid(t, fileOf(slotOf(2, pattern(n)), nil)), pattern(n), 2)
		opens(t, fmt.Sprintf("%d bytes behind", n), laid(t, fileOf(nil, slotOf(2, pattern(n)))), pattern(n), 2)
	}
}

func TestEachWrongBit(t *testing.T) {
	first, second := slotOf(7, "one"), slotOf(6, "two")
	for bit := range 8 * len(first) {
		spoilt := slices.Clone(first)
		spoilt[bit/8] ^= 1 << (bit % 8)
		what := fmt.Sprintf("with the bit %d wrong", bit)
		opens(t, what+" ahead", laid(t, fileOf(spoilt, second)), "two", 6)
		opens(t, what+" behind", laid(t, fileOf(second, spoilt)), "two", 6)
		corrupt(t, what+" ahead alone", laid(t, fileOf(spoilt, nil)))
		corrupt(t, what+" behind alone", laid(t, fileOf(nil, spoilt)))
	}
	for _, at := range []int{len(first), len(first) + 1, 4095} {
		all := fileOf(first, nil)
		all[at]++
		opens(t, "with a byte behind the text changed", laid(t, all), "one", 7)
	}
}

// A file of another length has no slots to save into.
func TestOtherLengths(t *testing.T) {
	all := append(fileOf(slotOf(2, "one"), slotOf(1, "two")), slotOf(3, "three")...)
	for _, n := range []int{0, 1, 15, 16, 18, 19, 20, 4095, 4096, 4097, 4114, 4115, 8000, 8191, 8193, len(all)} {
		corrupt(t, fmt.Sprintf("%d bytes", n), laid(t, all[:n]))
	}
	opens(t, "8,192 bytes", laid(t, all[:8192]), "one", 2)
	corrupt(t, "two slots of nothing", laid(t, make([]byte, 8192)))
	corrupt(t, "two slots of ones", laid(t, bytes.Repeat([]byte{255}, 8192)))
}

// Open tells what is there now, be it synced or not, and reads no more than the
// file.
func TestOpenReads(t *testing.T) {
	f := disk.New(room)
	created(t, f, "one")
	do(t, f.Write("a", 4096, slotOf(5, "five")))
	f.Fail(0)
	reads := f.Reads()
	opens(t, "unsynced", f, "five", 5)
	if got := f.Reads() - reads; got > 3*8192 {
		t.Errorf("P9.1: Open reads %d bytes", got)
	}
	want(t, "a Fail behind Open", f.SyncDir(), api.ErrIO)
}

func TestSave(t *testing.T) {
	f := disk.New(2 * api.SlotSize)
	s := created(t, f, "text 1")
	for turn := uint64(2); turn < 60; turn++ {
		n := []int{0, 1, 47, 48, 49, 100, 2000, 4079, 4080}[turn%9]
		text := pattern(n)
		before, calls := textOf(t, f, "a"), f.Calls()
		want(t, fmt.Sprintf("P9.1: Save of turn %d", turn), s.Save([]byte(text)), api.OK)
		holds(t, "Save", s, text, turn)
		if f.Calls() != calls+2 || f.Dirty() != 0 || f.Size("a") != 8192 || len(f.Names()) != 1 {
			t.Errorf("P9.1: Save %d: %d calls, %d dirty, %d bytes", turn, f.Calls()-calls, f.Dirty(), f.Size("a"))
		}
		got := textOf(t, f, "a")
		mine := int(turn+1) % 2 * 4096 // the first slot has the odd turns
		if yours := 4096 - mine; got[yours:][:4096] != before[yours:][:4096] {
			t.Errorf("P9.1: Save %d changes the other slot", turn)
		}
		if !strings.HasPrefix(got[mine:], string(slotOf(turn, text))) {
			t.Errorf("P9.1: Save %d: other bytes", turn)
		}
		opens(t, "behind Save", f, text, turn)
		opened := opens(t, "behind Save and a crash", f.Crash(0, nil, -1), text, turn)
		want(t, "P9.1: Save behind a crash", opened.Save([]byte("next")), api.OK)
		holds(t, "Save behind a crash", opened, "next", turn+1)
	}
}

func TestSaveNil(t *testing.T) {
	f := disk.New(room)
	s := created(t, f, "one")
	do(t, s.Save(nil))
	holds(t, "Save of nil", s, "", 2)
	opens(t, "Save of nil", f, "", 2)
}

// denied holds a Save that tells an error and makes so many calls.
func denied(t *testing.T, what string, f *disk.FS, s *File, b []byte, wanted api.Errno, calls int) {
	t.Helper()
	text, turn, before := string(s.Text()), s.Turn(), f.Calls()
	want(t, "P9.1: Save "+what, s.Save(b), wanted)
	holds(t, "Save "+what, s, text, turn)
	if got := f.Calls() - before; got != calls {
		t.Errorf("P9.1: Save %s: %d calls, not %d", what, got, calls)
	}
}

func TestSaveErrorsInOrder(t *testing.T) {
	long, far := make([]byte, 4081), make([]byte, 100000)
	f := disk.New(room)
	s := created(t, f, "one")
	before := filesOf(t, f)
	denied(t, "too large", f, s, long, api.ErrTooLarge, 0)
	denied(t, "far too large", f, s, far, api.ErrTooLarge, 0)
	f.Fail(0)
	denied(t, "too large, failing", f, s, long, api.ErrTooLarge, 0)
	f.Fail(-1)
	if filesOf(t, f) != before {
		t.Error("P9.1: a Save that is too large changes the disk")
	}
	// One that is too large is not tried.
	do(t, s.Save([]byte("two")))
	holds(t, "Save behind one too large", s, "two", 2)

	for _, turn := range []uint64{1 << 40, 1<<40 + 1, 1 << 41, 1 << 63, 1<<64 - 1} {
		f := laid(t, fileOf(nil, slotOf(turn, "top")))
		s := opens(t, "at the top", f, "top", turn)
		before := filesOf(t, f)
		f.Fail(0)
		denied(t, "too large beyond 2^40", f, s, long, api.ErrTooLarge, 0)
		denied(t, "beyond 2^40, failing", f, s, nil, api.ErrRange, 0)
		f.Fail(-1)
		denied(t, "beyond 2^40", f, s, []byte("x"), api.ErrRange, 0)
		if filesOf(t, f) != before {
			t.Error("P9.1: a Save beyond 2^40 changes the disk")
		}
		do(t, f.Remove("a"))
		denied(t, "beyond 2^40, no file", f, s, nil, api.ErrRange, 0)
	}
}

func TestTheLastTurn(t *testing.T) {
	f := laid(t, fileOf(slotOf(1<<40-1, "last but one"), nil))
	s := opens(t, "at 2^40 - 1", f, "last but one", 1<<40-1)
	want(t, "P9.1: Save of the last turn", s.Save([]byte("last")), api.OK)
	holds(t, "Save of the last turn", s, "last", 1<<40)
	denied(t, "behind the last turn", f, s, nil, api.ErrRange, 0)
	opens(t, "at the last turn", f, "last", 1<<40)
	for fail := range 2 {
		f := laid(t, fileOf(slotOf(1<<40-1, "last but one"), nil))
		s := opens(t, "at 2^40 - 1", f, "last but one", 1<<40-1)
		f.Fail(fail)
		denied(t, "of the last turn, failing", f, s, nil, api.ErrIO, fail+1)
		denied(t, "behind the last turn that was tried", f, s, nil, api.ErrRange, 0)
	}
}

// Behind a Save that failed the next goes to the same slot, with a turn greater
// than any that was tried.
func TestSaveFails(t *testing.T) {
	for _, first := range []int{0, 1} {
		for fails := range 1 << 5 {
			f := disk.New(room)
			s := created(t, f, "zero")
			turn := uint64(1)
			if first == 1 {
				do(t, s.Save([]byte("text")))
				turn++
			}
			text, kept := string(s.Text()), turn
			for i := range 5 {
				at := fails >> i & 1
				f.Fail(at)
				denied(t, fmt.Sprintf("that fails at %d", at), f, s, []byte("lost"), api.ErrIO, at+1)
				turn++
				slot := textOf(t, f, "a")[(1-first)*4096:]
				if wrote := strings.HasPrefix(slot, string(slotOf(turn, "lost"))); wrote != (at == 1) {
					t.Errorf("P9.1: fails %b, %d: the other slot was written: %v", fails, i, wrote)
				}
			}
			opened := opens(t, "behind failures", f.Crash(0, nil, -1), text, kept)
			holds(t, "behind failures", opened, text, kept)
			do(t, s.Save([]byte("more")))
			holds(t, "Save behind failures", s, "more", turn+1)
			got := textOf(t, f, "a")
			if !strings.HasPrefix(got[(1-first)*4096:], string(slotOf(turn+1, "more"))) || !strings.HasPrefix(got[first*4096:], string(slotOf(kept, text))) {
				t.Errorf("P9.1: fails %b: Save behind them went elsewhere", fails)
			}
			opens(t, "Save behind failures", f.Crash(0, nil, -1), "more", turn+1)
			do(t, s.Save([]byte("and more")))
			holds(t, "two Saves behind failures", s, "and more", turn+2)
			if !strings.HasPrefix(textOf(t, f, "a")[first*4096:], string(slotOf(turn+2, "and more"))) {
				t.Errorf("P9.1: fails %b: two Saves behind them went elsewhere", fails)
			}
		}
	}
}

// The file may be gone, or another, in the meantime.
func TestSaveIntoAnotherFile(t *testing.T) {
	f := disk.New(room)
	s := created(t, f, "one")
	do(t, f.Remove("a"))
	denied(t, "of a removed file", f, s, []byte("x"), api.ErrNotFound, 1)
	do(t, f.Create("a"))
	denied(t, "into an empty file", f, s, []byte("x"), api.ErrRange, 1)
	do(t, f.Write("a", 0, make([]byte, 4095)))
	denied(t, "into a short file", f, s, []byte("x"), api.ErrRange, 1)
	do(t, f.Write("a", 4095, []byte{0}))
	f.Room(4096)
	denied(t, "into a file that may not grow", f, s, []byte("x"), api.ErrFull, 1)
	f.Room(room)
	do(t, s.Save([]byte("x")))
	holds(t, "Save into a file of one slot", s, "x", 6)
}

func TestSaveNeedsNoRoom(t *testing.T) {
	f := disk.New(room)
	s := created(t, f, "one")
	f.Room(0)
	do(t, s.Save([]byte(pattern(4080))), s.Save([]byte(pattern(4080))))
	holds(t, "Save without room", s, pattern(4080), 3)
}

// A crash leaves the text as it was or as it was to be, whichever of the sectors
// came to the disk; if Save told OK, the latter.
func TestSaveCrashes(t *testing.T) {
	elder, text, lost := pattern(150), pattern(170)[20:], strings.Repeat("lost", 20)
	for saves := 1; saves < 4; saves++ {
		for fail := range 4 {
			f := disk.New(room)
			s := created(t, f, "")
			for range saves {
				do(t, s.Save([]byte(elder)))
			}
			kept := s.Turn()
			if fail == 3 {
				f.Fail(1)
				denied(t, "that fails", f, s, []byte(lost), api.ErrIO, 2)
			}
			f.Fail([]int{0, 1, 2, 1}[fail])
			err := s.Save([]byte(text))
			for keep := range 16 {
				for torn := -1; torn < 4; torn++ {
					g := f.Crash(0, []bool{keep&1 > 0, keep&2 > 0, keep&4 > 0, keep&8 > 0}, torn)
					y, openErr := Open(g, "a")
					what := fmt.Sprintf("%d saves, fail %d, keep %b, torn %d", saves, fail, keep, torn)
					want(t, "P9.1: "+what, openErr, api.OK)
					if err == api.OK || y.Turn() > kept {
						holds(t, what, y, text, s.tried)
					} else {
						holds(t, what, y, elder, kept)
					}
					next := y.Turn() + 1
					do(t, y.Save([]byte("next")))
					opens(t, what, g.Crash(0, nil, -1), "next", next)
				}
			}
		}
	}
}

// Two Files have nothing to do with one another, but for a file of both.
func TestTwoFiles(t *testing.T) {
	f := disk.New(room)
	a := created(t, f, "one")
	b, err := Create(f, "b", []byte("two"))
	want(t, "P9.1: Create of another", err, api.OK)
	do(t, a.Save([]byte("three")), a.Save([]byte("four")))
	f.Fail(0)
	denied(t, "of another", f, b, []byte("five"), api.ErrIO, 1)
	holds(t, "the first", a, "four", 3)
	holds(t, "the second", b, "two", 1)
	do(t, a.Save([]byte("six")), b.Save([]byte("seven")))
	holds(t, "the first", a, "six", 4)
	holds(t, "the second", b, "seven", 3)
}

func TestNoneOfIt(t *testing.T) {
	var none *File
	want(t, "P9.1: Save of nil", none.Save(nil), api.ErrClosed)
	want(t, "P9.1: Save of nil", none.Save([]byte("x")), api.ErrClosed)
	want(t, "P9.1: Save of nil, too large", none.Save(make([]byte, 4081)), api.ErrClosed)
	if len(none.Text()) != 0 || none.Turn() != 0 {
		t.Error("P9.1: a nil File tells something")
	}
}

// spoil writes over all of a list, its spare room too.
func spoil(b []byte) {
	for i := range b[:cap(b)] {
		b[:cap(b)][i] = '!'
	}
}

func TestNothingIsShared(t *testing.T) {
	f := disk.New(room)
	given := append(make([]byte, 0, 64), "given, and more"...)
	before := slices.Clone(given[:cap(given)])
	s, err := Create(f, "a", given[:5])
	want(t, "Create", err, api.OK)
	if !bytes.Equal(given[:cap(given)], before) {
		t.Error("P0.3: Create changes what is handed in")
	}
	spoil(given)
	holds(t, "Create, and its list changed", s, "given", 1)

	given = append(make([]byte, 0, 64), "saved, and more"...)
	before = slices.Clone(given[:cap(given)])
	do(t, s.Save(given[:5]))
	if !bytes.Equal(given[:cap(given)], before) {
		t.Error("P0.3: Save changes what is handed in")
	}
	spoil(given)
	holds(t, "Save, and its list changed", s, "saved", 2)

	for _, one := range []*File{s, opens(t, "the same", f, "saved", 2), created(t, disk.New(room), "saved")} {
		turn := one.Turn()
		spoil(one.Text())
		spoil(append(one.Text(), "more"...))
		holds(t, "Text, and its list changed", one, "saved", turn)
	}
	if got := opens(t, "the same", f, "saved", 2).Text(); len(got[:cap(got)]) > 64 {
		t.Errorf("P0.3: %d bytes of spare room", cap(got)-len(got))
	}
}
