package num

import (
	"bytes"
	"math"
	"math/big"
	"math/rand"
	"testing"
)

// lots are numbers at and around every edge: one bit, a bit less or more, all
// ones up to there, and their like below 0.
func lots() []int64 {
	list := []int64{0, 0x0102030405060708, -0x0102030405060708, math.MinInt64, math.MaxInt64}
	for bit := range 63 {
		one := int64(1) << bit
		list = append(list, one-1, one, one+1, -one-1, -one, -one+1)
	}
	seeded := rand.New(rand.NewSource(1))
	for range 200 {
		list = append(list, int64(seeded.Uint64()), int64(seeded.Uint64()>>seeded.Intn(64)))
	}
	return list
}

// lotsOfSteps are how far to shift: all that differ, and far ones.
func lotsOfSteps() []int {
	list := []int{
		math.MinInt, math.MinInt + 1, math.MinInt + 63, math.MinInt + 64, math.MaxInt, math.MaxInt - 1,
		1 << 31, 1<<31 - 1, -1 << 31, 1 << 32, 1<<32 + 1, -1 << 32, -1<<32 - 1, 1 << 62, -1 << 62,
		255, 256, 257, -255, -256, -257,
	}
	for k := -200; k <= 200; k++ {
		list = append(list, k)
	}
	return list
}

// lotsOfWidths are how many bits: those that there are, and what is near them.
func lotsOfWidths() []int {
	list := []int{math.MinInt, math.MinInt + 8, math.MaxInt, 1<<32 + 8, 1<<8 + 8, 1<<16 + 16, -1 << 32}
	for bits := -70; bits <= 140; bits++ {
		list = append(list, bits)
	}
	return list
}

func TestPutKnown(t *testing.T) {
	const n = 0x0102030405060708
	all := []byte{1, 2, 3, 4, 5, 6, 7, 8}
	for size := range 9 {
		if got := Put(n, size); !bytes.Equal(got, all[8-size:]) {
			t.Errorf("P4.1: Put of %d bytes: %v", size, got)
		}
	}
	tests := []struct {
		n    uint64
		size int
		want []byte
	}{
		{0, 1, []byte{0}},
		{0, 8, make([]byte, 8)},
		{5, 4, []byte{0, 0, 0, 5}},
		{255, 1, []byte{255}},
		{256, 1, []byte{0}},
		{0xffee, 1, []byte{0xee}},
		{0xffee, 3, []byte{0, 0xff, 0xee}},
		{1 << 63, 8, []byte{128, 0, 0, 0, 0, 0, 0, 0}},
		{1 << 63, 7, make([]byte, 7)},
		{math.MaxUint64, 8, bytes.Repeat([]byte{255}, 8)},
		{math.MaxUint64, 5, bytes.Repeat([]byte{255}, 5)},
	}
	for _, c := range tests {
		if got := Put(c.n, c.size); !bytes.Equal(got, c.want) {
			t.Errorf("P4.1: Put(%x, %d): %v, not %v", c.n, c.size, got, c.want)
		}
	}
}

func TestPutOfNoSize(t *testing.T) {
	for _, size := range []int{
		math.MinInt, math.MinInt + 8, -1 << 32, -256, -9, -8, -2, -1, 0,
		9, 10, 16, 64, 255, 256, 257, 1 << 31, 1 << 32, 1<<32 + 4, math.MaxInt,
	} {
		if got := Put(math.MaxUint64, size); len(got) != 0 {
			t.Errorf("P4.1: Put of %d bytes: %v", size, got)
		}
	}
}

func TestPutAndGet(t *testing.T) {
	for _, x := range lots() {
		n := uint64(x)
		for size := range 9 {
			b := Put(n, size)
			if len(b) != size {
				t.Fatalf("P4.1: Put(%x, %d): %d bytes", n, size, len(b))
			}
			want := new(big.Int).SetUint64(n)
			want.Mod(want, new(big.Int).Lsh(big.NewInt(1), uint(8*size)))
			if got := new(big.Int).SetBytes(b); got.Cmp(want) != 0 {
				t.Errorf("P4.1: Put(%x, %d): %x, not %x", n, size, got, want)
			}
			if got := Get(b); got != want.Uint64() {
				t.Errorf("P4.1: Get(%v): %x, not %x", b, got, want)
			}
		}
	}
}

func TestGetKnown(t *testing.T) {
	tests := []struct {
		b    []byte
		want uint64
	}{
		{nil, 0},
		{[]byte{}, 0},
		{[]byte{0}, 0},
		{[]byte{7}, 7},
		{[]byte{255}, 255},
		{[]byte{1, 2}, 0x0102},
		{[]byte{0, 0, 0, 0, 0, 0, 0, 9}, 9},
		{[]byte{1, 2, 3, 4, 5, 6, 7}, 0x01020304050607},
		{[]byte{1, 2, 3, 4, 5, 6, 7, 8}, 0x0102030405060708},
		{[]byte{1, 2, 3, 4, 5, 6, 7, 8, 9}, 0x0203040506070809},
		{[]byte{255, 0, 0, 0, 0, 0, 0, 0, 0}, 0},
		{bytes.Repeat([]byte{255}, 8), math.MaxUint64},
		{append(bytes.Repeat([]byte{255}, 1000), 0, 0, 0, 0, 0, 0, 1, 2), 0x0102},
		{make([]byte, 1<<20), 0},
	}
	for _, c := range tests {
		if got := Get(c.b); got != c.want {
			t.Errorf("P4.1: Get of %d bytes: %x, not %x", len(c.b), got, c.want)
		}
	}
}

func TestCutKnown(t *testing.T) {
	tests := []struct {
		n      int64
		bits   int
		signed bool
		want   int64
		fits   bool
	}{
		{127, 8, true, 127, true},
		{128, 8, true, -128, false},
		{-128, 8, true, -128, true},
		{-129, 8, true, 127, false},
		{255, 8, true, -1, false},
		{256, 8, true, 0, false},
		{255, 8, false, 255, true},
		{256, 8, false, 0, false},
		{-1, 8, false, 255, false},
		{-256, 8, false, 0, false},
		{32767, 16, true, 32767, true},
		{32768, 16, true, -32768, false},
		{-32768, 16, true, -32768, true},
		{-32769, 16, true, 32767, false},
		{65535, 16, false, 65535, true},
		{65536, 16, false, 0, false},
		{-1, 16, false, 65535, false},
		{1<<31 - 1, 32, true, 1<<31 - 1, true},
		{1 << 31, 32, true, -1 << 31, false},
		{-1 << 31, 32, true, -1 << 31, true},
		{-1<<31 - 1, 32, true, 1<<31 - 1, false},
		{1<<32 - 1, 32, false, 1<<32 - 1, true},
		{1 << 32, 32, false, 0, false},
		{-1, 32, false, 1<<32 - 1, false},
		{math.MaxInt64, 64, true, math.MaxInt64, true},
		{math.MinInt64, 64, true, math.MinInt64, true},
		{-1, 64, true, -1, true},
		{math.MaxInt64, 64, false, math.MaxInt64, true},
		{math.MinInt64, 64, false, math.MinInt64, false},
		{-1, 64, false, -1, false},
		{0, 64, false, 0, true},
	}
	for _, c := range tests {
		if got := Cut(c.n, c.bits, c.signed); got != c.want {
			t.Errorf("P4.2: Cut(%d, %d, %v): %d, not %d", c.n, c.bits, c.signed, got, c.want)
		}
		if got := Fits(c.n, c.bits, c.signed); got != c.fits {
			t.Errorf("P4.2: Fits(%d, %d, %v): %v", c.n, c.bits, c.signed, got)
		}
	}
}

// cutWanted reckons the rest of n in so many bits by numbers without bounds.
func cutWanted(n int64, bits int, signed bool) *big.Int {
	round := new(big.Int).Lsh(big.NewInt(1), uint(bits))
	rest := new(big.Int).Mod(big.NewInt(n), round)
	if signed && rest.Bit(bits-1) == 1 {
		rest.Sub(rest, round)
	}
	return rest
}

// told is how Cut tells a number: those that no int64 is by their bits.
func told(n *big.Int) int64 {
	if n.Sign() < 0 {
		return n.Int64()
	}
	return int64(n.Uint64())
}

func TestCutOfEachWidth(t *testing.T) {
	for _, bits := range []int{8, 16, 32, 64} {
		for _, signed := range []bool{false, true} {
			for _, n := range lots() {
				want := cutWanted(n, bits, signed)
				fits := want.Cmp(big.NewInt(n)) == 0
				if got := Cut(n, bits, signed); got != told(want) {
					t.Errorf("P4.2: Cut(%d, %d, %v): %d, not %v", n, bits, signed, got, want)
				}
				if got := Fits(n, bits, signed); got != fits {
					t.Errorf("P4.2: Fits(%d, %d, %v): %v", n, bits, signed, got)
				}
			}
		}
	}
}

func TestCutOfOtherWidths(t *testing.T) {
	for _, bits := range lotsOfWidths() {
		if bits == 8 || bits == 16 || bits == 32 || bits == 64 {
			continue
		}
		for _, signed := range []bool{false, true} {
			for _, n := range []int64{0, 1, -1, 127, 255, 256, math.MinInt64, math.MaxInt64} {
				if got := Cut(n, bits, signed); got != 0 {
					t.Errorf("P4.2: Cut(%d, %d, %v): %d", n, bits, signed, got)
				}
				if got := Fits(n, bits, signed); got != (n == 0) {
					t.Errorf("P4.2: Fits(%d, %d, %v): %v", n, bits, signed, got)
				}
			}
		}
	}
}

func TestLeftAndRightKnown(t *testing.T) {
	tests := []struct {
		k     int
		left  uint64 // of 0x8000000000000081
		right int64  // of the same bits
	}{
		{0, 0x8000000000000081, -0x7fffffffffffff7f},
		{1, 0x102, -0x3fffffffffffffc0},
		{7, 0x4080, -0x00ffffffffffffff},
		{62, 1 << 62, -2},
		{63, 1 << 63, -1},
		{64, 0, -1},
		{65, 0, -1},
		{128, 0, -1},
		{256, 0, -1},
		{1 << 32, 0, -1},
		{math.MaxInt, 0, -1},
		{-1, 0x4000000000000040, 0x102},
		{-7, 0x0100000000000001, 0x4080},
		{-62, 2, 1 << 62},
		{-63, 1, math.MinInt64},
		{-64, 0, 0},
		{-65, 0, 0},
		{-128, 0, 0},
		{-256, 0, 0},
		{-1 << 32, 0, 0},
		{math.MinInt + 1, 0, 0},
		{math.MinInt, 0, 0},
	}
	for _, c := range tests {
		if got := Left(0x8000000000000081, c.k); got != c.left {
			t.Errorf("P4.2: Left by %d: %x, not %x", c.k, got, c.left)
		}
		if got := Right(-0x7fffffffffffff7f, c.k); got != c.right {
			t.Errorf("P4.2: Right by %d: %x, not %x", c.k, got, c.right)
		}
	}
}

// leftWanted goes to the left a bit at a time, to the right for k below 0.
func leftWanted(n uint64, k int) uint64 {
	for k = min(max(k, -64), 64); k > 0; k-- {
		n += n
	}
	for ; k < 0; k++ {
		n /= 2
	}
	return n
}

// rightWanted goes to the right a bit at a time, to the left for k below 0.
func rightWanted(n int64, k int) int64 {
	for k = min(max(k, -64), 64); k > 0; k-- {
		// Halves of numbers below 0 are cut downward.
		if n%2 != 0 {
			n--
		}
		n /= 2
	}
	for ; k < 0; k++ {
		n += n
	}
	return n
}

// turnWanted turns a bit at a time.
func turnWanted(n uint64, k int) uint64 {
	for k %= 64; k > 0; k-- {
		n = n + n + n/(1<<63)
	}
	for ; k < 0; k++ {
		n = n/2 + n%2*(1<<63)
	}
	return n
}

func TestShiftsByEachStep(t *testing.T) {
	for _, x := range lots() {
		n := uint64(x)
		for _, k := range lotsOfSteps() {
			if got, want := Left(n, k), leftWanted(n, k); got != want {
				t.Fatalf("P4.2: Left(%x, %d): %x, not %x", n, k, got, want)
			}
			if got, want := Right(x, k), rightWanted(x, k); got != want {
				t.Fatalf("P4.2: Right(%d, %d): %d, not %d", x, k, got, want)
			}
			if got, want := Turn(n, k), turnWanted(n, k); got != want {
				t.Fatalf("P4.2: Turn(%x, %d): %x, not %x", n, k, got, want)
			}
		}
	}
}

func TestRightOfEitherSign(t *testing.T) {
	tests := []struct {
		n    int64
		k    int
		want int64
	}{
		{5, 1, 2},
		{-5, 1, -3},
		{-1, 1, -1},
		{-1, 64, -1},
		{1, 64, 0},
		{math.MaxInt64, 62, 1},
		{math.MaxInt64, math.MaxInt, 0},
		{math.MinInt64, math.MaxInt, -1},
		{1, -62, 1 << 62},
		{1, -63, math.MinInt64},
		{3, -63, math.MinInt64},
		{-1, -63, math.MinInt64},
		{math.MaxInt64, -1, -2},
		{math.MinInt64, -1, 0},
	}
	for _, c := range tests {
		if got := Right(c.n, c.k); got != c.want {
			t.Errorf("P4.2: Right(%d, %d): %d, not %d", c.n, c.k, got, c.want)
		}
	}
}

func TestTurnKnown(t *testing.T) {
	const n = 0x0123456789abcdef
	tests := []struct {
		k    int
		want uint64
	}{
		{0, n},
		{1, 0x02468acf13579bde},
		{4, 0x123456789abcdef0},
		{60, 0xf0123456789abcde},
		{63, 0x8091a2b3c4d5e6f7},
		{64, n},
		{65, 0x02468acf13579bde},
		{68, 0x123456789abcdef0},
		{math.MaxInt, 0x8091a2b3c4d5e6f7},
		{-1, 0x8091a2b3c4d5e6f7},
		{-4, 0xf0123456789abcde},
		{-60, 0x123456789abcdef0},
		{-63, 0x02468acf13579bde},
		{-64, n},
		{-65, 0x8091a2b3c4d5e6f7},
		{-128, n},
		{math.MinInt, n},
		{math.MinInt + 1, 0x02468acf13579bde},
	}
	for _, c := range tests {
		if got := Turn(n, c.k); got != c.want {
			t.Errorf("P4.2: Turn by %d: %016x, not %016x", c.k, got, c.want)
		}
	}
}

func TestMaskOfEachPair(t *testing.T) {
	for from := -70; from <= 140; from++ {
		for to := -70; to <= 140; to++ {
			var want uint64
			if from >= 0 && to <= 64 {
				for bit := from; bit < to; bit++ {
					want += uint64(1) << bit
				}
			}
			if got := Mask(from, to); got != want {
				t.Errorf("P4.2: Mask(%d, %d): %x, not %x", from, to, got, want)
			}
		}
	}
}

func TestMaskOfFarBits(t *testing.T) {
	far := []int{math.MinInt, math.MinInt + 1, -1 << 32, -1 << 31, 1 << 31, 1 << 32, 1<<32 + 5, math.MaxInt - 1, math.MaxInt}
	for _, x := range far {
		for _, y := range append([]int{0, 1, 5, 63, 64}, far...) {
			if got := Mask(x, y); got != 0 {
				t.Errorf("P4.2: Mask(%d, %d): %x", x, y, got)
			}
			if got := Mask(y, x); got != 0 {
				t.Errorf("P4.2: Mask(%d, %d): %x", y, x, got)
			}
		}
	}
}

// Who writes into an answer, its spare room too, changes no other one.
func TestPutAnswersNewMemory(t *testing.T) {
	const n = 0x0102030405060708
	for size := range 9 {
		first := Put(n, size)
		spare := first[:cap(first)]
		for i := range spare {
			spare[i] = 0x77
		}
		second := Put(n, size)
		if Get(second) != n&Mask(0, 8*size) {
			t.Errorf("P0.3: Put of %d bytes hangs on what was done to another answer: %v", size, second)
		}
		for _, c := range spare {
			if c != 0x77 {
				t.Fatalf("P0.3: Put of %d bytes writes into another answer", size)
			}
		}
	}
}

// The spare room behind a list is the caller's too.
func TestListStaysAsItWas(t *testing.T) {
	room := make([]byte, 40)
	for i := range room {
		room[i] = byte(i + 1)
	}
	before := bytes.Clone(room)
	for n := range len(room) + 1 {
		Get(room[:n])
		if !bytes.Equal(room, before) {
			t.Fatalf("P0.3: a list of %d bytes or its spare room is changed", n)
		}
	}
}

func TestSameAgain(t *testing.T) {
	b := []byte{1, 2, 3}
	first := Get(b)
	Put(9, 8)
	Get([]byte{9, 9, 9, 9})
	if Get(b) != first {
		t.Error("P0.5: an answer hangs on what was asked before")
	}
	b[0] = 7
	if Get(b) != 0x070203 {
		t.Error("P0.3: Get hangs on a list of an earlier call")
	}
}
