package mac

import (
	"bytes"
	"crypto/hmac"
	"crypto/sha256"
	"encoding/hex"
	"testing"
)

// pattern makes n bytes that do not repeat soon.
func pattern(n int) []byte {
	b := make([]byte, n)
	x := uint32(12345)
	for i := range b {
		x = x*1664525 + 1013904223
		b[i] = byte(x >> 24)
	}
	return b
}

// wanted is what another program makes of key and b.
func wanted(key, b []byte) [32]byte {
	h := hmac.New(sha256.New, key)
	h.Write(b)
	return [32]byte(h.Sum(nil))
}

// The tags stand here as texts, so that they hang on no other program. They are
// RFC 4231's examples but the one cut short, and that of nothing under no key.
func TestSumKnown(t *testing.T) {
	long := bytes.Repeat([]byte{0xaa}, 131)
	counted := make([]byte, 25)
	for i := range counted {
		counted[i] = byte(i + 1)
	}
	tests := []struct {
		name   string
		key, b []byte
		want   string
	}{
		{"nothing", nil, nil, "b613679a0814d9ec772f95d778c35fc5ff1697c493715653c6c712144292c5ad"},
		{"case 1", bytes.Repeat([]byte{0x0b}, 20), []byte("Hi There"),
			"b0344c61d8db38535ca8afceaf0bf12b881dc200c9833da726e9376c2e32cff7"},
		{"case 2", []byte("Jefe"), []byte("what do ya want for nothing?"),
			"5bdcc146bf60754e6a042426089575c75a003f089d2739839dec58b964ec3843"},
		{"case 3", bytes.Repeat([]byte{0xaa}, 20), bytes.Repeat([]byte{0xdd}, 50),
			"773ea91e36800e46854db8ebd09181a72959098b3ef8c122d9635514ced565fe"},
		{"case 4", counted, bytes.Repeat([]byte{0xcd}, 50),
			"82558a389a443c0ea4cc819899f2083a85f0faa3e578f8077a2e3ff46729665b"},
		{"case 6", long, []byte("Test Using Larger Than Block-Size Key - Hash Key First"),
			"60e431591ee0b67f0d8a26aacbf5b77f8e0bc6213728c5140546040f0ee37f54"},
		{"case 7", long, []byte("This is a test using a larger than block-size key and a larger than " +
			"block-size data. The key needs to be hashed before being used by the HMAC algorithm."),
			"9b09ffa71b942fcb27635fbcd5b0e944bfdc63644f0713938a7f51535c3a35e2"},
	}
	for _, c := range tests {
		got := Sum(c.key, c.b)
		if hex.EncodeToString(got[:]) != c.want {
			t.Errorf("P3.1: Sum of %s: %x, not %s", c.name, got, c.want)
		}
	}
}

// A key of just a block is the longest that is taken as it is: the lengths
// around it are among these.
func TestSumOfEachKeyLength(t *testing.T) {
	all := pattern(300)
	texts := [][]byte{nil, all[:1], all[7:71], all}
	for n := range len(all) + 1 {
		for _, b := range texts {
			if got, want := Sum(all[:n], b), wanted(all[:n], b); got != want {
				t.Fatalf("P3.1: Sum under a key of %d bytes, of %d: %x, not %x", n, len(b), got, want)
			}
		}
	}
}

func TestSumOfEachLength(t *testing.T) {
	all := pattern(300)
	for _, key := range [][]byte{nil, all[:32], all[:64], all[:65]} {
		for n := range len(all) + 1 {
			if got, want := Sum(key, all[:n]), wanted(key, all[:n]); got != want {
				t.Fatalf("P3.1: Sum of %d bytes under a key of %d: %x, not %x", n, len(key), got, want)
			}
		}
	}
}

func TestSumOfEachKeyByte(t *testing.T) {
	for i := range 256 {
		key := []byte{byte(i)}
		if got, want := Sum(key, key), wanted(key, key); got != want {
			t.Errorf("P3.1: Sum under the byte %02x: %x, not %x", i, got, want)
		}
	}
}

func TestSumOfLongLists(t *testing.T) {
	long := pattern(1<<20 + 3)
	for _, c := range [][2][]byte{{long, long[:10]}, {long[:10], long}, {long, long}} {
		if got, want := Sum(c[0], c[1]), wanted(c[0], c[1]); got != want {
			t.Errorf("P3.1: Sum under a key of %d bytes, of %d: %x, not %x", len(c[0]), len(c[1]), got, want)
		}
	}
}

func TestCheckOfTheTag(t *testing.T) {
	all := pattern(200)
	for n := range len(all) + 1 {
		key, b := all[:n], all[n:]
		tag := wanted(key, b)
		if !Check(key, b, tag[:]) {
			t.Fatalf("P3.1: Check of the tag under a key of %d bytes: false", n)
		}
	}
	if tag := wanted(nil, nil); !Check(nil, nil, tag[:]) {
		t.Error("P3.1: Check of the tag of nothing: false")
	}
}

// Each bit of the tag counts. Two faults of one shape do not make up for each
// other.
func TestCheckOfAnotherTag(t *testing.T) {
	key, b := []byte("key"), []byte("text")
	tag := wanted(key, b)
	for i := range tag {
		for bit := range 8 {
			wrong := tag
			wrong[i] ^= 1 << bit
			if Check(key, b, wrong[:]) {
				t.Errorf("P3.1: Check of a tag with bit %d of byte %d wrong: true", bit, i)
			}
			wrong[(i+1)%len(wrong)] ^= 1 << bit
			if Check(key, b, wrong[:]) {
				t.Errorf("P3.1: Check of a tag with bit %d of byte %d and the next wrong: true", bit, i)
			}
		}
	}
	none, full := make([]byte, 32), bytes.Repeat([]byte{0xff}, 32)
	if Check(key, b, none) || Check(key, b, full) {
		t.Error("P3.1: Check of a tag of one byte, 32 times: true")
	}
}

func TestCheckOfAnotherLength(t *testing.T) {
	key, b := []byte("key"), []byte("text")
	sum := wanted(key, b)
	long := append(sum[:], sum[:]...)
	long = append(long, make([]byte, 300)...)
	for n := range len(long) + 1 {
		if got := Check(key, b, long[:n]); got != (n == 32) {
			t.Errorf("P3.1: Check of a tag of %d bytes: %v", n, got)
		}
	}
	if Check(key, b, long[1:33]) || Check(key, b, append([]byte{0}, sum[:]...)) {
		t.Error("P3.1: Check of a tag that is moved: true")
	}
	if Check(key, b, nil) || Check(nil, nil, nil) {
		t.Error("P3.1: Check of no tag: true")
	}
}

func TestCheckUnderAnotherKeyOrText(t *testing.T) {
	key, b := []byte("key"), []byte("text")
	tag := wanted(key, b)
	tests := []struct {
		name   string
		key, b []byte
	}{
		{"no key", nil, b},
		{"another key", []byte("kez"), b},
		{"no text", key, nil},
		{"another text", key, []byte("tex")},
		{"text and key changed about", b, key},
		{"another cut between key and text", []byte("keyt"), []byte("ext")},
	}
	for _, c := range tests {
		if Check(c.key, c.b, tag[:]) {
			t.Errorf("P3.1: Check with %s: true", c.name)
		}
	}
}

// The plain digest of what is tagged is no tag of it.
func TestCheckOfADigest(t *testing.T) {
	key, b := []byte("key"), []byte("text")
	for _, s := range []string{"text", "keytext", "textkey"} {
		digest := sha256.Sum256([]byte(s))
		if Check(key, b, digest[:]) {
			t.Errorf("P3.1: Check of the digest of %q: true", s)
		}
	}
}

func TestNilIsEmpty(t *testing.T) {
	if Sum(nil, nil) != Sum([]byte{}, []byte{}) {
		t.Error("P0.4: Sum of nil lists is not that of empty ones")
	}
	tag := wanted(nil, nil)
	if !Check([]byte{}, []byte{}, tag[:]) || Check(nil, nil, []byte{}) {
		t.Error("P0.4: Check of empty lists is not that of nil ones")
	}
}

// Short and long keys go two ways: neither may be written to, nor the room
// behind them.
func TestListsAreLeftAlone(t *testing.T) {
	for _, n := range []int{0, 10, 63, 64, 65, 200} {
		room := pattern(3 * 300)
		key, b, tag := room[:n], room[300:300+n], room[600:600+32]
		sum := wanted(key, b)
		copy(tag, sum[:])
		before := bytes.Clone(room)
		Sum(key, b)
		Check(key, b, tag)
		Check(key, b, tag[:31])
		if !bytes.Equal(room, before) {
			t.Errorf("P0.3: lists of %d bytes were changed", n)
		}
	}
}

func TestListsMayBeOne(t *testing.T) {
	one := pattern(100)
	want := wanted(one, one)
	if Sum(one, one) != want || !Check(one, one, want[:]) {
		t.Error("P3.1: a key that is the text too")
	}
	var same [32]byte
	if Check(same[:], same[:], same[:]) {
		t.Error("P3.1: Check of one list as key, text and tag: true")
	}
}

// What is handed in may change behind a call, without a trace in the next.
func TestNothingIsKept(t *testing.T) {
	key, b := pattern(70), pattern(90)
	first := Sum(key, b)
	old := bytes.Clone(key)
	key[0]++
	if got, want := Sum(key, b), wanted(key, b); got != want {
		t.Errorf("P0.5: Sum behind another: %x, not %x", got, want)
	}
	if Check(key, b, first[:]) {
		t.Error("P0.5: Check of the tag under the key as it was: true")
	}
	if Sum(old, b) != first || !Check(old, b, first[:]) {
		t.Error("P0.5: Sum of the same lists again is another")
	}
}
