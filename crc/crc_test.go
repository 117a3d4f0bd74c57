package crc

import (
	"bytes"
	"hash/crc32"
	"strings"
	"testing"
)

// reference is another's reckoning of the same sum.
var reference = crc32.MakeTable(crc32.Castagnoli)

// pattern makes n bytes that do not repeat soon.
func pattern(n int) []byte {
	b := make([]byte, n)
	x := uint32(12345)
	for i := range b {
		x = x*1664525 + 1013904223
		b[i] = byte(x >> 24)
	}
	return b
}

// The sums stand here as numbers, so that they hang on no other program. Those
// of 32 bytes are RFC 3720's.
func TestSumKnown(t *testing.T) {
	up, down := make([]byte, 32), make([]byte, 32)
	for i := range up {
		up[i], down[i] = byte(i), byte(31-i)
	}
	tests := []struct {
		name string
		b    []byte
		want uint32
	}{
		{"nil", nil, 0},
		{"empty", []byte{}, 0},
		{"one zero byte", []byte{0}, 0x527d5351},
		{"one full byte", []byte{0xff}, 0xff000000},
		{"a", []byte("a"), 0xc1d04330},
		{"abc", []byte("abc"), 0x364b3fb7},
		{"digits", []byte("123456789"), 0xe3069283},
		{"32 zero bytes", make([]byte, 32), 0x8a9136aa},
		{"32 full bytes", bytes.Repeat([]byte{0xff}, 32), 0x62a8ab43},
		{"32 bytes upward", up, 0x46dd794e},
		{"32 bytes downward", down, 0x113fdb5c},
	}
	for _, c := range tests {
		if got := Sum(c.b); got != c.want {
			t.Errorf("P1.1: Sum of %s: %08x, not %08x", c.name, got, c.want)
		}
	}
}

func TestSumOfEachByte(t *testing.T) {
	for i := range 256 {
		b := []byte{byte(i)}
		if got, want := Sum(b), crc32.Checksum(b, reference); got != want {
			t.Errorf("P1.1: Sum of the byte %02x: %08x, not %08x", i, got, want)
		}
	}
}

func TestSumOfEachLength(t *testing.T) {
	all := pattern(1100)
	for n := range len(all) + 1 {
		if got, want := Sum(all[:n]), crc32.Checksum(all[:n], reference); got != want {
			t.Fatalf("P1.1: Sum of %d bytes: %08x, not %08x", n, got, want)
		}
	}
}

func TestSumOfLongTexts(t *testing.T) {
	long := pattern(1<<22 + 3)
	for _, b := range [][]byte{long, long[1:], make([]byte, 1<<20), bytes.Repeat([]byte{0xff}, 1<<20+1)} {
		if got, want := Sum(b), crc32.Checksum(b, reference); got != want {
			t.Errorf("P1.1: Sum of %d bytes: %08x, not %08x", len(b), got, want)
		}
	}
}

// A sum that does not see one bit would let a torn record pass.
func TestSumSeesEachBit(t *testing.T) {
	b := pattern(70)
	whole := Sum(b)
	for i := range 8 * len(b) {
		b[i/8] ^= 1 << (i % 8)
		if Sum(b) == whole {
			t.Errorf("P1.1: the bit %d makes no difference", i)
		}
		b[i/8] ^= 1 << (i % 8)
	}
}

func TestMoreOfNothing(t *testing.T) {
	for _, s := range []uint32{0, 1, 0xe3069283, 0x7fffffff, 0x80000000, 0xffffffff} {
		if got := More(s, nil); got != s {
			t.Errorf("P1.1: More(%08x, nil): %08x", s, got)
		}
		if got := More(s, []byte{}); got != s {
			t.Errorf("P1.1: More(%08x, empty): %08x", s, got)
		}
	}
}

func TestMoreAtEachCut(t *testing.T) {
	for _, n := range []int{0, 1, 2, 3, 8, 35, 64, 255, 1039} {
		b := pattern(n)
		want := Sum(b)
		for cut := range n + 1 {
			if got := More(Sum(b[:cut]), b[cut:]); got != want {
				t.Errorf("P1.1: More of %d bytes cut at %d: %08x, not %08x", n, cut, got, want)
			}
		}
	}
}

func TestMoreInManyPieces(t *testing.T) {
	b := pattern(1000)
	want := Sum(b)
	for _, size := range []int{1, 2, 7, 39, 64, 999} {
		s := Sum(nil)
		for at := 0; at < len(b); at += size {
			s = More(s, b[at:min(at+size, len(b))])
		}
		if s != want {
			t.Errorf("P1.1: More by pieces of %d bytes: %08x, not %08x", size, s, want)
		}
	}
}

// Each number is the Sum of some text of four bytes, so none may be refused.
func TestMoreOfAnySum(t *testing.T) {
	b := pattern(100)
	for _, s := range []uint32{0, 1, 0xf, 0xf0, 0xdeadbeef, 0x7fffffff, 0x80000000, 0xfffffffe, 0xffffffff} {
		for _, n := range []int{1, 4, 100} {
			if got, want := More(s, b[:n]), crc32.Update(s, reference, b[:n]); got != want {
				t.Errorf("P1.1: More(%08x, %d bytes): %08x, not %08x", s, n, got, want)
			}
		}
	}
}

func TestSameAgain(t *testing.T) {
	b := pattern(200)
	first, further := Sum(b), More(7, b)
	Sum([]byte(strings.Repeat("something else", 20)))
	More(9, b[3:])
	if Sum(b) != first || More(7, b) != further {
		t.Error("P0.5: an answer hangs on what was asked before")
	}
}

// The spare room behind a list is the caller's too.
func TestListStaysAsItWas(t *testing.T) {
	room := pattern(300)
	before := bytes.Clone(room)
	for _, n := range []int{0, 1, 100, 299, 300} {
		Sum(room[:n])
		More(0xdeadbeef, room[:n])
		if !bytes.Equal(room, before) {
			t.Fatalf("P0.3: a list of %d bytes or its spare room is changed", n)
		}
	}
}

// What was handed in is the caller's again: its later change must not be seen.
func TestListIsNotKept(t *testing.T) {
	b := []byte("123456789")
	s := Sum(b[:4])
	More(s, b[4:])
	copy(b, "XXXXXXXXX")
	if got := More(s, []byte("56789")); got != 0xe3069283 {
		t.Errorf("P0.3: More hangs on a list of an earlier call: %08x", got)
	}
	if got := Sum([]byte("123456789")); got != 0xe3069283 {
		t.Errorf("P0.3: Sum hangs on a list of an earlier call: %08x", got)
	}
}
