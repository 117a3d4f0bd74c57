package disk

import (
	"fmt"
	"math"
	"slices"
	"strings"
	"testing"

	"stillroom/api"
)

// noughts are so many bytes 0.
func noughts(n int) string { return strings.Repeat("\x00", n) }

// x are so many bytes of that letter.
func x(n int, letter string) string { return strings.Repeat(letter, n) }

func TestDirty(t *testing.T) {
	f := New(10000)
	check := func(what string, wanted int) {
		t.Helper()
		if got := f.Dirty(); got != wanted {
			t.Errorf("P5.3: Dirty %s: %d, not %d", what, got, wanted)
		}
	}
	check("of no file", 0)
	do(t, f.Create("a"))
	check("of an empty file", 0)
	do(t, f.Write("a", 0, nil))
	check("behind a Write of nothing", 0)
	do(t, f.Write("a", 0, []byte(x(64, "a"))))
	check("of a sector", 1)
	do(t, f.Write("a", 64, nil))
	check("behind a Write of nothing at the end", 1)
	do(t, f.Write("a", 64, []byte("a")))
	check("of a sector and a byte", 2)
	do(t, f.Write("a", 10, []byte("b")), f.Write("a", 63, []byte("bb")))
	check("of what is dirty already", 2)
	do(t, f.SyncDir())
	check("behind SyncDir", 2)
	do(t, f.Sync("a"))
	check("behind Sync", 0)
	do(t, f.Write("a", 64, []byte("b")))
	check("of bytes that were there", 1)
	do(t, f.Write("a", 30, nil))
	check("of nothing in the midst", 1)
	do(t, f.Write("a", 65, []byte(x(320, "c"))))
	check("of many sectors", 6)
	do(t, f.Create("b"), f.Write("b", 0, []byte("x")))
	check("of two files", 7)
	do(t, f.Rename("b", "c"))
	check("of a file renamed", 7)
	do(t, f.Sync("a"))
	check("of the other file", 1)
	do(t, f.Write("a", 200, []byte("x")), f.Create("a"))
	check("of a file made anew", 1)
	do(t, f.Write("a", 0, []byte("x")), f.Rename("a", "c"))
	check("of a file in another one's place", 1)
	do(t, f.Remove("c"))
	check("of what is removed", 0)
}

// oneFile is a disk with a file a that was synced with so many bytes s and
// written since with so many bytes w from at on.
func oneFile(t *testing.T, synced, at, written int) *FS {
	t.Helper()
	f := New(10000)
	do(t, f.Create("a"), f.SyncDir())
	do(t, f.Write("a", 0, []byte(x(synced, "s"))), f.Sync("a"), f.Write("a", at, []byte(x(written, "w"))))
	return f
}

func TestCrashOfOneFile(t *testing.T) {
	tests := []struct {
		synced, at, written int
		keep                []bool
		torn                int
		want                string
	}{
		// A sector as it was, as it is, torn.
		{64, 0, 64, nil, -1, x(64, "s")},
		{64, 0, 64, []bool{true}, -1, x(64, "w")},
		{64, 0, 64, []bool{false}, 0, x(32, "w") + x(32, "s")},
		{64, 0, 64, []bool{true}, 0, x(32, "w") + x(32, "s")},
		{64, 0, 64, nil, 0, x(32, "w") + x(32, "s")},
		// Torn where only one half was written.
		{64, 40, 10, nil, 0, x(64, "s")},
		{64, 40, 10, []bool{true}, 0, x(64, "s")},
		{64, 10, 10, nil, 0, x(10, "s") + x(10, "w") + x(44, "s")},
		{64, 31, 2, nil, 0, x(31, "s") + "w" + x(32, "s")},
		// It grows, or does not.
		{0, 0, 64, nil, -1, ""},
		{0, 0, 64, []bool{true}, -1, x(64, "w")},
		{0, 0, 64, nil, 0, x(32, "w")},
		{0, 0, 33, nil, 0, x(32, "w")},
		{0, 0, 32, nil, 0, x(32, "w")},
		{0, 0, 31, nil, 0, x(31, "w")},
		{0, 0, 1, nil, 0, "w"},
		{10, 10, 10, nil, -1, x(10, "s")},
		{10, 10, 10, []bool{true}, -1, x(10, "s") + x(10, "w")},
		{10, 10, 40, nil, 0, x(10, "s") + x(22, "w")},
		{40, 40, 20, nil, 0, x(40, "s")},
		{40, 0, 60, nil, 0, x(32, "w") + x(8, "s")},
		// Some of several sectors.
		{100, 60, 200, nil, -1, x(100, "s")},
		{100, 60, 200, []bool{true}, -1, x(60, "s") + x(4, "w") + x(36, "s")},
		{100, 60, 200, []bool{false, true}, -1, x(64, "s") + x(64, "w")},
		{100, 60, 200, []bool{false, false, true}, -1, x(100, "s") + noughts(28) + x(64, "w")},
		{100, 60, 200, []bool{false, false, false, false, true}, -1, x(100, "s") + noughts(156) + x(4, "w")},
		{100, 60, 200, []bool{false, false, false, false, true}, 2, x(100, "s") + noughts(28) + x(32, "w") + noughts(96) + x(4, "w")},
		{100, 60, 200, []bool{true, true, true, true, true}, -1, x(60, "s") + x(200, "w")},
		{100, 60, 200, []bool{true, true, true, true, true}, 1, x(60, "s") + x(36, "w") + x(4, "s") + noughts(28) + x(132, "w")},
		{100, 60, 200, []bool{true, true, true, true, true}, 4, x(60, "s") + x(200, "w")},
		{100, 60, 200, nil, 1, x(64, "s") + x(32, "w") + x(4, "s")},
		{80, 60, 200, nil, 1, x(64, "s") + x(32, "w")},
		{100, 60, 200, nil, 3, x(100, "s") + noughts(92) + x(32, "w")},
		{100, 60, 200, nil, 4, x(100, "s") + noughts(156) + x(4, "w")},
		// Only dirty sectors are counted.
		{300, 130, 10, []bool{true}, -1, x(130, "s") + x(10, "w") + x(160, "s")},
		{300, 130, 10, []bool{false, true, true, true, true}, -1, x(300, "s")},
		{300, 130, 40, nil, 0, x(130, "s") + x(30, "w") + x(140, "s")},
		{300, 130, 40, nil, 2, x(300, "s")},
		// Numbers of no sector, and more of them than there are.
		{64, 0, 64, nil, 1, x(64, "s")},
		{64, 0, 64, nil, math.MaxInt, x(64, "s")},
		{64, 0, 64, nil, math.MinInt, x(64, "s")},
		{64, 0, 64, []bool{true, true, true}, 2, x(64, "w")},
		// A Write of nothing.
		{64, 64, 0, []bool{true}, 0, x(64, "s")},
	}
	for _, c := range tests {
		f := oneFile(t, c.synced, c.at, c.written)
		if got := textOf(t, f.Crash(0, c.keep, c.torn), "a"); got != c.want {
			t.Errorf("P5.3: Crash of %d, %d at %d, %v, torn %d: %q, not %q", c.synced, c.written, c.at, c.keep, c.torn, got, c.want)
		}
	}
}

// Sectors are counted through all files, by the names that the crash leaves.
func TestCrashOfSeveralFiles(t *testing.T) {
	f := New(10000)
	do(t, f.Create("c"), f.Create("a"), f.Create("B"), f.SyncDir())
	for _, name := range []string{"c", "a", "B"} {
		do(t, f.Write(name, 0, []byte(x(128, "s"))), f.Sync(name))
	}
	do(t, f.Write("c", 0, []byte(x(128, "c"))), f.Write("a", 64, []byte(x(64, "a"))), f.Write("B", 0, []byte(x(64, "B"))))
	do(t, f.Rename("B", "b"), f.Rename("a", "z"), f.Remove("c"))
	sectors := map[string]string{
		"B0": "B=" + x(64, "B") + x(64, "s"), "B": "B=" + x(128, "s"),
		"b0": "b=" + x(64, "B") + x(64, "s"), "b": "b=" + x(128, "s"),
		"a1": "a=" + x(64, "s") + x(64, "a"), "a": "a=" + x(128, "s"),
		"z1": "z=" + x(64, "s") + x(64, "a"), "z": "z=" + x(128, "s"),
		"c0": "c=" + x(64, "c") + x(64, "s"), "c1": "c=" + x(64, "s") + x(64, "c"), "c": "c=" + x(128, "s"),
		"b/": "b=" + x(32, "B") + x(96, "s"), "z/": "z=" + x(64, "s") + x(32, "a") + x(32, "s"),
		"c/": "c=" + x(64, "s") + x(32, "c") + x(32, "s"),
	}
	tests := []struct {
		n, kept, torn int
		want          []string
	}{
		// The order is B, a, c.
		{0, -1, -1, []string{"B", "a", "c"}},
		{0, 0, -1, []string{"B0", "a", "c"}},
		{0, 1, -1, []string{"B", "a1", "c"}},
		{0, 2, -1, []string{"B", "a", "c0"}},
		{0, 3, -1, []string{"B", "a", "c1"}},
		{0, 1, 3, []string{"B", "a1", "c/"}},
		{0, 4, 4, []string{"B", "a", "c"}},
		// With B named b: a, b, c.
		{1, 0, -1, []string{"a1", "b", "c"}},
		{1, 1, -1, []string{"a", "b0", "c"}},
		{1, 3, 1, []string{"a", "b/", "c1"}},
		// With a named z: b, c, z.
		{2, 0, 3, []string{"b0", "c", "z/"}},
		{2, 1, -1, []string{"b", "c0", "z"}},
		{2, 3, 2, []string{"b", "c/", "z1"}},
		// Without c, whose sectors are not counted: b, z.
		{3, 1, 0, []string{"b/", "z1"}},
		{3, 3, 2, []string{"b", "z"}},
		{99, 1, -1, []string{"b", "z1"}},
	}
	for _, c := range tests {
		keep := make([]bool, 6)
		if c.kept >= 0 {
			keep[c.kept] = true
		}
		d := f.Crash(c.n, keep, c.torn)
		var got, wanted []string
		for _, name := range d.Names() {
			got = append(got, name+"="+textOf(t, d, name))
		}
		for _, key := range c.want {
			wanted = append(wanted, sectors[key])
		}
		if !slices.Equal(got, wanted) {
			t.Errorf("P5.3: %d changes, %d kept, %d torn:\n%q, not\n%q", c.n, c.kept, c.torn, got, wanted)
		}
	}
}

// The directory's changes wait one by one, those that change nothing too.
func TestCrashWithEachChange(t *testing.T) {
	f := New(10000)
	do(t, f.Create("a"), f.Create("b"), f.SyncDir())
	do(t, f.Write("a", 0, []byte("1")), f.Write("b", 0, []byte("2")), f.Sync("a"), f.Sync("b"))
	f.Rename("none", "a")
	f.Create("no/ne")
	f.Remove("none")
	f.Rename("a", "")
	f.Fail(0)
	f.Remove("a")
	do(t, f.Rename("a", "a"))                                              // 1
	do(t, f.Create("a"), f.Write("a", 0, []byte("3")), f.Sync("a"))        // 2
	do(t, f.Rename("b", "c"))                                              // 3
	do(t, f.Rename("a", "c"))                                              // 4
	do(t, f.Remove("c"))                                                   // 5
	do(t, f.Create("c"))                                                   // 6
	do(t, f.Create("d"), f.Write("d", 0, []byte("4")), f.Rename("d", "c")) // 7, 8
	states := []string{
		"a=\"1\"\nb=\"2\"\n",
		"a=\"1\"\nb=\"2\"\n",
		"a=\"3\"\nb=\"2\"\n",
		"a=\"3\"\nc=\"2\"\n",
		"c=\"3\"\n",
		"",
		"c=\"\"\n",
		"c=\"\"\nd=\"\"\n",
		"c=\"\"\n",
	}
	for n, wanted := range states {
		if got := filesOf(t, f.Crash(n, nil, -1)); got != wanted {
			t.Errorf("P5.3: Crash with %d changes: %s, not %s", n, got, wanted)
		}
	}
	for _, n := range []int{math.MinInt, -9, -1} {
		if got := filesOf(t, f.Crash(n, nil, -1)); got != states[0] {
			t.Errorf("P5.3: Crash with %d changes: %s", n, got)
		}
	}
	for _, n := range []int{9, 100, math.MaxInt} {
		if got := filesOf(t, f.Crash(n, []bool{true}, -1)); got != "c=\"4\"\n" {
			t.Errorf("P5.3: Crash with %d changes: %s", n, got)
		}
	}
	do(t, f.SyncDir(), f.Remove("c"))
	if filesOf(t, f.Crash(0, nil, -1)) != "c=\"\"\n" || filesOf(t, f.Crash(1, nil, -1)) != "" {
		t.Error("P5.3: Crash behind SyncDir")
	}
}

// A file that has another one's name now is still there as it was synced, and
// its own sectors are counted.
func TestCrashBringsOldFilesBack(t *testing.T) {
	f := New(10000)
	do(t, f.Create("a"), f.SyncDir(), f.Write("a", 0, []byte(x(70, "s"))), f.Sync("a"), f.Write("a", 64, []byte(x(64, "o"))))
	do(t, f.Create("a"), f.Write("a", 0, []byte(x(10, "n"))))
	if f.Dirty() != 1 {
		t.Errorf("P5.3: Dirty %d", f.Dirty())
	}
	for torn, wanted := range []string{x(64, "s") + x(32, "o"), x(70, "s")} {
		if got := textOf(t, f.Crash(0, nil, torn), "a"); got != wanted {
			t.Errorf("P5.3: the old file, %d torn: %q", torn, got)
		}
	}
	if got := textOf(t, f.Crash(0, []bool{true}, -1), "a"); got != x(64, "s")+x(64, "o") {
		t.Errorf("P5.3: the old file: %q", got)
	}
	if got := textOf(t, f.Crash(1, []bool{true}, -1), "a"); got != x(10, "n") {
		t.Errorf("P5.3: the new file: %q", got)
	}
	do(t, f.SyncDir())
	if got := textOf(t, f.Crash(0, []bool{true}, -1), "a"); got != x(10, "n") {
		t.Errorf("P5.3: the new file behind SyncDir: %q", got)
	}
}

// Old files that come back may be more than the room: they are there, and none
// of them grows.
func TestCrashBeyondTheRoom(t *testing.T) {
	f := New(100)
	do(t, f.Create("a"), f.Create("b"), f.SyncDir(), f.Write("a", 0, make([]byte, 90)), f.Sync("a"), f.Remove("a"))
	do(t, f.Write("b", 0, make([]byte, 100)), f.Sync("b"))
	d := f.Crash(0, nil, -1)
	if d.Used() != 190 {
		t.Errorf("P5.3: Used %d", d.Used())
	}
	want(t, "P5.1: Write that grows", d.Write("a", 90, []byte("x")), api.ErrFull)
	want(t, "P5.1: Write that does not grow", d.Write("a", 89, []byte("x")), api.OK)
	want(t, "P5.1: Remove", d.Remove("a"), api.OK)
	want(t, "P5.1: Write in the room", d.Write("b", 100, []byte("x")), api.ErrFull)
	do(t, d.Create("b"))
	want(t, "P5.1: Write of all", d.Write("b", 0, make([]byte, 100)), api.OK)
}

func TestCrashCountsAnew(t *testing.T) {
	f := prepared(t)
	textOf(t, f, "a")
	f.Fail(0)
	d := f.Crash(2, []bool{true, true, true}, 1)
	if d.Calls() != 0 || d.Reads() != 0 || d.Dirty() != 0 {
		t.Errorf("P5.3: Calls %d, Reads %d, Dirty %d", d.Calls(), d.Reads(), d.Dirty())
	}
	want(t, "P5.3: SyncDir behind a crash", d.SyncDir(), api.OK)
	want(t, "P5.3: the Fail of the disk itself", f.SyncDir(), api.ErrIO)
	if f.Calls() != preparedCalls+1 || f.Reads() != 65 || f.Dirty() != 3 {
		t.Errorf("P5.3: the disk itself: Calls %d, Reads %d, Dirty %d", f.Calls(), f.Reads(), f.Dirty())
	}
}

// All is synced behind a crash: another one without a change takes nothing, and
// what is written since hangs on the new disk alone.
func TestCrashBehindACrash(t *testing.T) {
	f := oneFile(t, 100, 60, 200)
	do(t, f.Create("b"))
	d := f.Crash(1, []bool{false, true, false, true}, 0)
	// The first sector is torn, and its first half was not written.
	text := x(64, "s") + x(64, "w") + noughts(64) + x(64, "w")
	wanted := fmt.Sprintf("a=%q\nb=\"\"\n", text)
	if got := filesOf(t, d); got != wanted {
		t.Fatalf("P5.3: Crash: %s", got)
	}
	if got := filesOf(t, d.Crash(0, nil, -1)); got != wanted {
		t.Errorf("P5.3: not all is synced: %s", got)
	}
	if got := filesOf(t, d.Crash(5, []bool{true, true}, 0)); got != wanted {
		t.Errorf("P5.3: something waits or is dirty: %s", got)
	}
	do(t, d.Write("a", 250, []byte(x(20, "n"))), d.Remove("b"))
	if got := filesOf(t, d.Crash(0, []bool{false, true}, 0)); got != fmt.Sprintf("a=%q\nb=\"\"\n", text+x(14, "n")) {
		t.Errorf("P5.3: Crash behind a crash: %s", got)
	}
	if got := filesOf(t, d.Crash(1, nil, -1)); got != fmt.Sprintf("a=%q\n", text) {
		t.Errorf("P5.3: Crash behind a crash: %s", got)
	}
}

// Neither of the two disks hangs on what becomes of the other one.
func TestCrashStandsApart(t *testing.T) {
	f := prepared(t)
	keep := []bool{true, false, true}
	d := f.Crash(1, keep, 1)
	old, left := stateOf(t, f), stateOf(t, d)
	do(t, d.Write("a", 0, []byte(x(60, "d"))), d.Sync("a"), d.Write("b", 0, []byte("dd")), d.Rename("a", "q"), d.SyncDir())
	d.Room(3)
	if stateOf(t, f) != old {
		t.Error("P5.3: the disk itself changes with the other one")
	}
	d = f.Crash(1, keep, 1)
	if stateOf(t, d) != left {
		t.Error("P0.5: Crash is another one the second time")
	}
	if !slices.Equal(keep, []bool{true, false, true}) {
		t.Error("P0.3: keep is changed")
	}
	clear(keep)
	do(t, f.Write("a", 0, []byte(x(60, "f"))), f.Sync("a"), f.Write("b", 0, []byte("ff")), f.Sync("b"), f.Rename("a", "q"), f.SyncDir())
	f.Room(3)
	if stateOf(t, d) != left {
		t.Error("P5.3: the other disk changes with the disk itself, or with keep")
	}
}

// What Sync made last does, whatever sectors it was that were dirty.
func TestSyncLasts(t *testing.T) {
	f := New(10000)
	do(t, f.Create("a"), f.SyncDir())
	wanted := []byte{}
	for i := range 60 {
		letter := string(rune('a' + i%26))
		at := i * 37 % (len(wanted) + 1)
		n := i * 29 % 150
		if at+n > len(wanted) {
			wanted = append(wanted, make([]byte, at+n-len(wanted))...)
		}
		copy(wanted[at:], x(n, letter))
		do(t, f.Write("a", at, []byte(x(n, letter))))
		if i%3 == 0 {
			do(t, f.Sync("a"))
			if got := textOf(t, f.Crash(0, nil, 0), "a"); got != string(wanted) || f.Dirty() != 0 {
				t.Fatalf("P5.1: Sync, %d: %q, not %q", i, got, wanted)
			}
		}
	}
}
