package sha

import (
	"bytes"
	"encoding/hex"
	"strings"
	"testing"
)

func TestHexKnown(t *testing.T) {
	tests := []struct {
		b    []byte
		want string
	}{
		{nil, ""},
		{[]byte{}, ""},
		{[]byte{0}, "00"},
		{[]byte{0x0a}, "0a"},
		{[]byte{0xa0}, "a0"},
		{[]byte{0xff}, "ff"},
		{[]byte{0, 255, 171}, "00ffab"},
		{[]byte{0x01, 0x23, 0x45, 0x67, 0x89, 0xab, 0xcd, 0xef}, "0123456789abcdef"},
	}
	for _, c := range tests {
		if got := Hex(c.b); got != c.want {
			t.Errorf("P2.1: Hex(%v): %q, not %q", c.b, got, c.want)
		}
		got, ok := Unhex(c.want)
		if !ok || !bytes.Equal(got, c.b) {
			t.Errorf("P2.1: Unhex(%q): %v, %v, not %v", c.want, got, ok, c.b)
		}
	}
}

func TestHexOfEachLength(t *testing.T) {
	all := pattern(300)
	for n := range len(all) + 1 {
		s := Hex(all[:n])
		if s != hex.EncodeToString(all[:n]) {
			t.Fatalf("P2.1: Hex of %d bytes: %s", n, s)
		}
		if b, ok := Unhex(s); !ok || !bytes.Equal(b, all[:n]) {
			t.Fatalf("P2.1: Unhex of %d bytes: %v, %v", n, b, ok)
		}
	}
}

// Unhex takes just what Hex makes: of all pairs of bytes 256 are right.
func TestUnhexOfEachPair(t *testing.T) {
	made := make(map[string]byte)
	for i := range 256 {
		made[hex.EncodeToString([]byte{byte(i)})] = byte(i)
	}
	for i := range 1 << 16 {
		s := string([]byte{byte(i >> 8), byte(i)})
		want, may := made[s]
		b, ok := Unhex(s)
		if ok != may {
			t.Errorf("P2.1: Unhex(%q): %v, not %v", s, ok, may)
		}
		if may && (len(b) != 1 || b[0] != want) || !may && b != nil {
			t.Errorf("P2.1: Unhex(%q): %v", s, b)
		}
	}
}

func TestUnhexOfWhatIsNone(t *testing.T) {
	long := strings.Repeat("0f", 100)
	for _, s := range []string{
		"0", "f", "abc", "00000", "g", "A",
		"0g", "g0", "0G", "AB", "aB", "Ab", "0x", "0xff", "x0", " 0", "0 ", " 00 ", "00 ", "00\n", "\n0",
		"+1", "-1", "1.", "0_0f", "/0", "0:", "`a", "a@", "\x00\x00", "00\x00\x00", "\xff\xff",
		"ä", "äa", "\u0660\u0661", "\uff10", "00zz", "zz00", "0011zz2233",
		long + "0", long + "0g", "g0" + long, long + "zz" + long,
	} {
		if b, ok := Unhex(s); ok || b != nil {
			t.Errorf("P2.1: Unhex(%q): %v, %v", s, b, ok)
		}
	}
}

// A fault at any place counts, in either digit of a byte.
func TestUnhexSeesEachPlace(t *testing.T) {
	right := Hex(pattern(70))
	for i := range right {
		wrong := right[:i] + "F" + right[i+1:]
		if b, ok := Unhex(wrong); ok || b != nil {
			t.Errorf("P2.1: Unhex with a great digit at %d: %v, %v", i, b, ok)
		}
		short := right[:i] + right[i+1:]
		if b, ok := Unhex(short); ok || b != nil {
			t.Errorf("P2.1: Unhex without the digit at %d: %v, %v", i, b, ok)
		}
	}
}

// Who writes into an answer, its spare room too, changes no other one.
func TestUnhexAnswersNewMemory(t *testing.T) {
	for _, s := range []string{"", "00ffab", strings.Repeat("5a", 64)} {
		first, _ := Unhex(s)
		spare := first[:cap(first)]
		for i := range spare {
			spare[i] = 0x77
		}
		second, ok := Unhex(s)
		if !ok || Hex(second) != s {
			t.Errorf("P0.3: Unhex(%q) hangs on what was done to another answer: %v", s, second)
		}
		for _, c := range spare {
			if c != 0x77 {
				t.Fatalf("P0.3: Unhex(%q) writes into another answer", s)
			}
		}
	}
}
