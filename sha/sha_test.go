package sha

import (
	"bytes"
	"crypto/sha256"
	"encoding/hex"
	"strings"
	"testing"
)

// pattern makes n bytes that do not repeat soon.
func pattern(n int) []byte {
	b := make([]byte, n)
	x := uint32(12345)
	for i := range b {
		x = x*1664525 + 1013904223
		b[i] = byte(x >> 24)
	}
	return b
}

// The digests stand here as texts, so that they hang on no other program. They
// are FIPS 180's examples, but for that of one byte.
func TestSumKnown(t *testing.T) {
	tests := []struct {
		name string
		b    []byte
		want string
	}{
		{"nil", nil, "e3b0c44298fc1c149afbf4c8996fb92427ae41e4649b934ca495991b7852b855"},
		{"empty", []byte{}, "e3b0c44298fc1c149afbf4c8996fb92427ae41e4649b934ca495991b7852b855"},
		{"one zero byte", []byte{0}, "6e340b9cffb37a989ca544e6bb780a2c78901d3fb33738768511a30617afa01d"},
		{"abc", []byte("abc"), "ba7816bf8f01cfea414140de5dae2223b00361a396177a9cb410ff61f20015ad"},
		{"56 bytes", []byte("abcdbcdecdefdefgefghfghighijhijkijkljklmklmnlmnomnopnopq"),
			"248d6a61d20638b8e5c026930c3e6039a33ce45964ff2167f6ecedd419db06c1"},
		{"112 bytes", []byte("abcdefghbcdefghicdefghijdefghijkefghijklfghijklmghijklmn" +
			"hijklmnoijklmnopjklmnopqklmnopqrlmnopqrsmnopqrstnopqrstu"),
			"cf5b16a778af8380036ce59e7b0492370b249b11e8f07a51afac45037afee9d1"},
		{"a million", bytes.Repeat([]byte("a"), 1000000),
			"cdc76e5c9914fb9281a1c7e284d73e67f1809a48a497200e046d39ccc7112cd0"},
	}
	for _, c := range tests {
		got := Sum(c.b)
		if hex.EncodeToString(got[:]) != c.want {
			t.Errorf("P2.1: Sum of %s: %x, not %s", c.name, got, c.want)
		}
	}
}

func TestSumOfEachByte(t *testing.T) {
	for i := range 256 {
		b := []byte{byte(i)}
		if got, want := Sum(b), sha256.Sum256(b); got != want {
			t.Errorf("P2.1: Sum of the byte %02x: %x, not %x", i, got, want)
		}
	}
}

// The lengths at which the last block has just, or just not, room for its end
// are among these.
func TestSumOfEachLength(t *testing.T) {
	for _, all := range [][]byte{pattern(1100), make([]byte, 300), bytes.Repeat([]byte{0xff}, 300)} {
		for n := range len(all) + 1 {
			if got, want := Sum(all[:n]), sha256.Sum256(all[:n]); got != want {
				t.Fatalf("P2.1: Sum of %d bytes: %x, not %x", n, got, want)
			}
		}
	}
}

func TestSumOfLongTexts(t *testing.T) {
	long := pattern(1<<22 + 3)
	for _, b := range [][]byte{long, long[1:], long[:1<<22], make([]byte, 1<<20)} {
		if got, want := Sum(b), sha256.Sum256(b); got != want {
			t.Errorf("P2.1: Sum of %d bytes: %x, not %x", len(b), got, want)
		}
	}
}

// From 2^29 bytes on the length in bits takes more than 32 bits.
func TestSumBeyondALengthOf32Bits(t *testing.T) {
	if testing.Short() {
		t.Skip("it takes some seconds")
	}
	const pieces = 1<<9 + 1
	piece := pattern(1 << 20)
	h, reference := New(), sha256.New()
	for range pieces {
		h.Write(piece)
		reference.Write(piece)
	}
	got := h.Sum()
	if want := reference.Sum(nil); !bytes.Equal(got[:], want) {
		t.Errorf("P2.1: Sum of %d bytes: %x, not %x", pieces*len(piece), got, want)
	}
}

func TestSumSeesEachBit(t *testing.T) {
	b := pattern(130)
	whole := Sum(b)
	for i := range 8 * len(b) {
		b[i/8] ^= 1 << (i % 8)
		if Sum(b) == whole {
			t.Errorf("P2.1: the bit %d makes no difference", i)
		}
		b[i/8] ^= 1 << (i % 8)
	}
}

func TestNewIsOfNothing(t *testing.T) {
	if got, want := New().Sum(), sha256.Sum256(nil); got != want {
		t.Errorf("P2.1: Sum of a new Hash: %x, not %x", got, want)
	}
}

func TestWriteAtEachCut(t *testing.T) {
	for _, n := range []int{0, 1, 55, 56, 63, 64, 65, 119, 120, 127, 128, 129, 200, 300} {
		b := pattern(n)
		want := sha256.Sum256(b)
		for cut := range n + 1 {
			h := New()
			h.Write(b[:cut])
			h.Write(b[cut:])
			if got := h.Sum(); got != want {
				t.Errorf("P2.1: %d bytes cut at %d: %x, not %x", n, cut, got, want)
			}
		}
	}
}

func TestWriteInManyPieces(t *testing.T) {
	b := pattern(1000)
	want := sha256.Sum256(b)
	for _, size := range []int{1, 2, 7, 32, 63, 64, 65, 128, 129, 999} {
		h := New()
		for at := 0; at < len(b); at += size {
			h.Write(b[at:min(at+size, len(b))])
		}
		if got := h.Sum(); got != want {
			t.Errorf("P2.1: pieces of %d bytes: %x, not %x", size, got, want)
		}
	}
}

func TestWriteOfNothing(t *testing.T) {
	for _, n := range []int{0, 1, 55, 56, 63, 64, 65, 128} {
		b := pattern(n)
		h := New()
		h.Write(nil)
		h.Write(b)
		h.Write([]byte{})
		h.Write(nil)
		if got, want := h.Sum(), sha256.Sum256(b); got != want {
			t.Errorf("P2.1: %d bytes, and none beside them: %x, not %x", n, got, want)
		}
	}
}

// A Sum between must leave no trace, wherever in a block it comes.
func TestSumBetweenWrites(t *testing.T) {
	all := pattern(300)
	h := New()
	for n := range len(all) {
		want := sha256.Sum256(all[:n])
		for again := range 3 {
			if got := h.Sum(); got != want {
				t.Fatalf("P2.1: Sum %d of %d bytes: %x, not %x", again, n, got, want)
			}
		}
		h.Write(all[n : n+1])
	}
	if got, want := h.Sum(), sha256.Sum256(all); got != want {
		t.Errorf("P2.1: Sum at the end: %x, not %x", got, want)
	}
}

func TestHashesAreApart(t *testing.T) {
	left, right := pattern(150), bytes.Repeat([]byte("other"), 40)
	a, b := New(), New()
	for i := range 150 {
		a.Write(left[i : i+1])
		b.Write(right[i : i+1])
		Sum(left)
	}
	if a.Sum() != sha256.Sum256(left[:150]) || b.Sum() != sha256.Sum256(right[:150]) {
		t.Error("P0.5: a Hash hangs on what another one was told")
	}
}

func TestNilHash(t *testing.T) {
	var h *Hash
	nothing := sha256.Sum256(nil)
	if got := h.Sum(); got != nothing {
		t.Errorf("P2.1: Sum of a nil Hash: %x, not %x", got, nothing)
	}
	h.Write([]byte("something"))
	h.Write(pattern(200))
	h.Write(nil)
	if got := h.Sum(); got != nothing {
		t.Errorf("P2.1: Sum of a nil Hash behind Write: %x, not %x", got, nothing)
	}
	if New().Sum() != nothing {
		t.Error("P0.5: a new Hash hangs on what a nil one was told")
	}
}

func TestSameAgain(t *testing.T) {
	b := pattern(200)
	first := Sum(b)
	Sum([]byte(strings.Repeat("something else", 20)))
	New().Write(b[3:])
	if Sum(b) != first {
		t.Error("P0.5: an answer hangs on what was asked before")
	}
}

// The spare room behind a list is the caller's too.
func TestListStaysAsItWas(t *testing.T) {
	room := pattern(300)
	before := bytes.Clone(room)
	h := New()
	for _, n := range []int{0, 1, 55, 56, 63, 64, 100, 128, 299, 300} {
		Sum(room[:n])
		h.Write(room[:n])
		h.Sum()
		Hex(room[:n])
		if !bytes.Equal(room, before) {
			t.Fatalf("P0.3: a list of %d bytes or its spare room is changed", n)
		}
	}
}

// What was handed in is the caller's again: its later change must not be seen.
func TestListIsNotKept(t *testing.T) {
	for _, n := range []int{1, 9, 63, 64, 100, 200} {
		b := pattern(n)
		want := sha256.Sum256(b)
		h := New()
		h.Write(b)
		clear(b)
		if got := h.Sum(); got != want {
			t.Errorf("P0.3: a Hash of %d bytes hangs on a list of an earlier call: %x, not %x", n, got, want)
		}
	}
}
