package record

import (
	"bytes"
	"encoding/binary"
	"encoding/hex"
	"hash/crc32"
	"math"
	"math/rand"
	"strings"
	"testing"

	"stillroom/api"
)

const (
	headSize = 39
	maxNum   = 1 << 40
)

// castagnoli is for another's reckoning of the same sum.
var castagnoli = crc32.MakeTable(crc32.Castagnoli)

// plain is a record as bytes, by another way, whether it may be or not.
func plain(kind byte, r api.Record) []byte {
	return plainOfLength(kind, r, uint32(len(r.Body)))
}

// plainOfLength is one whose head tells a length that need not be its Body's.
// Its sum is right.
func plainOfLength(kind byte, r api.Record, length uint32) []byte {
	b := []byte{'S', 'R', kind}
	b = binary.BigEndian.AppendUint32(b, r.Tenant)
	b = binary.BigEndian.AppendUint64(b, r.Epoch)
	b = binary.BigEndian.AppendUint64(b, r.Object)
	b = binary.BigEndian.AppendUint64(b, r.Seq)
	b = binary.BigEndian.AppendUint32(b, length)
	b = binary.BigEndian.AppendUint32(b, crc32.Checksum(append(bytes.Clone(b), r.Body...), castagnoli))
	return append(b, r.Body...)
}

// pattern makes n bytes that do not repeat soon.
func pattern(n int) []byte {
	b := make([]byte, n)
	x := uint32(12345)
	for i := range b {
		x = x*1664525 + 1013904223
		b[i] = byte(x >> 24)
	}
	return b
}

// sample is a record, each byte of whose numbers is another one.
func sample(body string) api.Record {
	return api.Record{
		Kind: api.KPart, Tenant: 0x81020304, Epoch: 0x8506070809,
		Object: 0x8a0b0c0d0e, Seq: 0x8f10111213, Body: body,
	}
}

// good are records that may be: each kind, the ends of each number, and Bodies
// of many lengths.
func good() []api.Record {
	var list []api.Record
	for kind := 1; kind <= 4; kind++ {
		for _, n := range []uint64{0, 1, 255, 256, 1 << 32, maxNum - 1, maxNum} {
			list = append(list,
				api.Record{Kind: kind, Epoch: n},
				api.Record{Kind: kind, Object: n, Body: "o"},
				api.Record{Kind: kind, Seq: n, Body: "SR"},
				api.Record{Kind: kind, Tenant: uint32(n), Epoch: n, Object: n, Seq: n, Body: "\x00\xff\xc3\x28"})
		}
		for _, tenant := range []uint32{0, 1, 1 << 31, math.MaxUint32} {
			list = append(list, api.Record{Kind: kind, Tenant: tenant, Body: "t"})
		}
	}
	all := string(pattern(1000))
	for _, n := range []int{0, 1, 2, 24, 25, 38, 39, 255, 256, 257, 511, 512, 999, 1000} {
		list = append(list, sample(all[:n]), sample(strings.Repeat("\x00", n)))
	}
	return list
}

// bad are records that may not be, each by one thing alone.
func bad() []api.Record {
	list := []api.Record{{}}
	for _, kind := range []int{
		math.MinInt, -1 << 32, -256, -255, -252, -4, -1, 0, 5, 6, 127, 128, 255,
		256, 257, 260, 1<<16 + 1, 1<<32 + 1, 1<<32 + 4, math.MaxInt,
	} {
		list = append(list, api.Record{Kind: kind, Body: "kind"})
	}
	for _, n := range []uint64{maxNum + 1, maxNum << 1, 1 << 48, 1 << 56, 1 << 63, 1<<63 + 1, math.MaxUint64 - 1, math.MaxUint64} {
		for kind := 1; kind <= 4; kind++ {
			list = append(list,
				api.Record{Kind: kind, Epoch: n},
				api.Record{Kind: kind, Object: n, Body: "object"},
				api.Record{Kind: kind, Seq: n, Body: "seq"})
		}
	}
	for _, n := range []int{1001, 1002, 1024, 2000, 1 << 16, 1<<16 + 1, 1 << 20} {
		list = append(list, api.Record{Kind: 1, Body: strings.Repeat("x", n)})
	}
	return list
}

func TestMay(t *testing.T) {
	for _, r := range good() {
		if !May(r) {
			t.Errorf("P6.1: May of kind %d, %x, %x, %x, %x, %d bytes: false", r.Kind, r.Tenant, r.Epoch, r.Object, r.Seq, len(r.Body))
		}
	}
	for _, r := range bad() {
		if May(r) {
			t.Errorf("P6.1: May of kind %d, %x, %x, %x, %x, %d bytes: true", r.Kind, r.Tenant, r.Epoch, r.Object, r.Seq, len(r.Body))
		}
	}
}

// A Body is counted by bytes, not by runes.
func TestMayCountsBytes(t *testing.T) {
	if r := sample(strings.Repeat("\u00e9", 500)); !May(r) {
		t.Error("P6.1: May of 500 runes of two bytes: false")
	}
	if r := sample(strings.Repeat("\u00e9", 500) + "x"); May(r) {
		t.Error("P6.1: May of 500 runes of two bytes and one: true")
	}
}

// known are records as bytes that stand here as digits, so that they hang on no
// other program.
func known() map[string]api.Record {
	return map[string]api.Record{
		"53520100000000" + "0000000000000000" + "0000000000000000" + "0000000000000000" + "00000000" + "9b59d870":                {Kind: 1},
		"535204ffffffff" + "0000010000000000" + "0000010000000000" + "0000010000000000" + "00000000" + "30971dc6":                {Kind: 4, Tenant: 0xffffffff, Epoch: 1 << 40, Object: 1 << 40, Seq: 1 << 40},
		"53520201020304" + "0000000506070809" + "0000000a0b0c0d0e" + "0000000f10111213" + "00000005" + "da2cb833" + "61626300ff": {Kind: 2, Tenant: 0x01020304, Epoch: 0x0506070809, Object: 0x0a0b0c0d0e, Seq: 0x0f10111213, Body: "abc\x00\xff"},
	}
}

func TestKnownBothWays(t *testing.T) {
	for digits, r := range known() {
		if got := hex.EncodeToString(Encode(r)); got != digits {
			t.Errorf("P6.1: Encode(%#v): %s, not %s", r, got, digits)
		}
		b, err := hex.DecodeString(digits)
		if err != nil {
			t.Fatal(err)
		}
		if got, n, err := Decode(b); got != r || n != len(b) || err != api.OK {
			t.Errorf("P6.1: Decode(%s): %#v, %d, %d", digits, got, n, err)
		}
	}
}

func TestEncode(t *testing.T) {
	for _, r := range good() {
		want := plain(byte(r.Kind), r)
		if got := Encode(r); !bytes.Equal(got, want) {
			t.Errorf("P6.1: Encode of kind %d, %d bytes: %x, not %x", r.Kind, len(r.Body), got, want)
		}
	}
}

func TestEncodeOfWhatMayNotBe(t *testing.T) {
	for _, r := range bad() {
		if got := Encode(r); got != nil {
			t.Errorf("P6.1: Encode of kind %d, %x, %x, %x, %d bytes: %d bytes", r.Kind, r.Epoch, r.Object, r.Seq, len(r.Body), len(got))
		}
	}
}

func TestEncodeOfEachLength(t *testing.T) {
	all := string(pattern(1000))
	for n := range len(all) + 1 {
		r := sample(all[:n])
		b := Encode(r)
		if want := plain(2, r); len(b) != headSize+n || !bytes.Equal(b, want) {
			t.Fatalf("P6.1: Encode of %d bytes: %x, not %x", n, b, want)
		}
		if got, size, err := Decode(b); got != r || size != len(b) || err != api.OK {
			t.Fatalf("P6.1: Decode of a record of %d bytes: %#v, %d, %d", n, got, size, err)
		}
	}
}

// What comes behind a record is not looked at.
func TestDecodeWithMoreBehind(t *testing.T) {
	for _, behind := range []string{"", "\x00", "\xff", "S", "SR\x01", "x", string(pattern(3000))} {
		for _, r := range good() {
			b := plain(byte(r.Kind), r)
			got, n, err := Decode(append(bytes.Clone(b), behind...))
			if got != r || n != len(b) || err != api.OK {
				t.Errorf("P6.1: Decode of kind %d, %d bytes, %d behind: %#v, %d, %d", r.Kind, len(r.Body), len(behind), got, n, err)
			}
		}
	}
}

func TestDecodeOneBehindTheOther(t *testing.T) {
	list := good()
	var b []byte
	for _, r := range list {
		b = append(b, Encode(r)...)
	}
	for i, r := range list {
		got, n, err := Decode(b)
		if got != r || n != headSize+len(r.Body) || err != api.OK {
			t.Fatalf("P6.1: Decode of the record %d: %#v, %d, %d", i, got, n, err)
		}
		b = b[n:]
	}
	if got, n, err := Decode(b); got != (api.Record{}) || n != 0 || err != api.ErrMore {
		t.Errorf("P6.1: Decode behind the last: %#v, %d, %d", got, n, err)
	}
}

// refused holds an answer against an error: no record, no bytes.
func refused(t *testing.T, what string, b []byte, want api.Errno) {
	t.Helper()
	if r, n, err := Decode(b); r != (api.Record{}) || n != 0 || err != want {
		t.Errorf("P6.1: Decode of %q: %#v, %d, %d, not %d", what, r, n, err, want)
	}
}

func TestDecodeOfNothing(t *testing.T) {
	refused(t, "nil", nil, api.ErrMore)
	refused(t, "no bytes", []byte{}, api.ErrMore)
}

func TestDecodeOfEachBeginning(t *testing.T) {
	for _, r := range good() {
		b := plain(byte(r.Kind), r)
		for n := range b {
			refused(t, "a beginning of a record", b[:n], api.ErrMore)
		}
	}
}

// Of fewer bytes than a head only the first three count.
func TestDecodeOfEachFirstByte(t *testing.T) {
	for c := range 256 {
		for _, behind := range []string{"", "x", "\x00", "\xff", strings.Repeat("\xff", 35), strings.Repeat("\x00", 35)} {
			first := api.ErrCorrupt
			if c == 'S' && (behind == "" || behind[0] == 'R') {
				first = api.ErrMore
			}
			refused(t, "a first byte", []byte(string([]byte{byte(c)})+behind), first)
			second := api.ErrCorrupt
			if c == 'R' && behind == "" {
				second = api.ErrMore
			}
			refused(t, "a second byte", []byte("S"+string([]byte{byte(c)})+behind), second)
			third := api.ErrCorrupt
			if c >= 1 && c <= 4 {
				third = api.ErrMore
			}
			refused(t, "a third byte", []byte("SR"+string([]byte{byte(c)})+behind), third)
		}
	}
}

// A right second byte does not make up for a wrong first one, nor a right third
// for these.
func TestDecodeOfOtherMarks(t *testing.T) {
	for _, s := range []string{
		"R", "RS", "RS\x01", "sr", "sR\x01", "Sr\x01", "s", "SS", "SS\x01", "RR\x01", "\x01", " SR\x01", "xR", "\x00SR\x01", "SSR\x01", "S R\x01", "SR1", "R\x01R",
	} {
		refused(t, s, []byte(s), api.ErrCorrupt)
		refused(t, s+" and more", []byte(s+strings.Repeat("\x01", 2000)), api.ErrCorrupt)
	}
}

// A place ahead of a record is not one where a record stands.
func TestDecodeAheadOfARecord(t *testing.T) {
	b := plain(2, sample("text"))
	for _, ahead := range []string{"\x00", "x", "S", "SR", "SR\x05", "R"} {
		refused(t, ahead+" ahead of a record", append([]byte(ahead), b...), api.ErrCorrupt)
	}
	for n := 1; n < len(b); n++ {
		refused(t, "the end of a record", b[n:], api.ErrCorrupt)
	}
}

// A bit of the length may make a record longer than what is there: then it may
// come yet. All else that is wrong is seen.
func TestDecodeWithOneBitWrong(t *testing.T) {
	for _, body := range []string{"", "body", string(pattern(488)), string(pattern(1000))} {
		b := plain(2, sample(body))
		for i := range 8 * len(b) {
			wrong := bytes.Clone(b)
			wrong[i/8] ^= 1 << (i % 8)
			want := api.ErrCorrupt
			length := binary.BigEndian.Uint32(wrong[31:])
			if length <= 1000 && int(length) > len(body) {
				want = api.ErrMore
			}
			refused(t, "a record with a wrong bit", wrong, want)
			refused(t, "a record with a wrong bit and more behind", append(wrong, pattern(2000)...), api.ErrCorrupt)
		}
	}
}

// In a head of fewer bytes than it takes numbers are not looked at, in a whole
// one they are, if its Body is not there and its sum is right.
func TestDecodeOfNumbersThatMayNotBe(t *testing.T) {
	for _, r := range bad() {
		if r.Kind < 1 || r.Kind > 4 {
			continue
		}
		b := plain(byte(r.Kind), r)
		refused(t, "a record that may not be", b, api.ErrCorrupt)
		refused(t, "a record that may not be and more behind", append(bytes.Clone(b), pattern(1100)...), api.ErrCorrupt)
		refused(t, "its head", b[:headSize], api.ErrCorrupt)
		refused(t, "less than its head", b[:headSize-1], api.ErrMore)
		r.Body = ""
		if May(r) {
			continue // it was the Body alone
		}
		b = plainOfLength(byte(r.Kind), r, 900)
		refused(t, "the head of a long record that may not be", b, api.ErrCorrupt)
	}
}

func TestDecodeOfKindsThatMayNotBe(t *testing.T) {
	for kind := range 256 {
		r := sample("kind")
		b := plain(byte(kind), r)
		if kind >= 1 && kind <= 4 {
			r.Kind = kind
			if got, n, err := Decode(b); got != r || n != len(b) || err != api.OK {
				t.Errorf("P6.1: Decode of kind %d: %#v, %d, %d", kind, got, n, err)
			}
			continue
		}
		for n := 3; n <= len(b); n++ {
			refused(t, "a kind that may not be", b[:n], api.ErrCorrupt)
		}
	}
}

// A record may be of at most 1,000 bytes, even if all are there and their sum
// is right.
func TestDecodeOfLengthsThatMayNotBe(t *testing.T) {
	for _, length := range []uint32{
		1001, 1002, 1023, 1024, 1 << 16, 1<<16 + 4, 1 << 24, 1<<31 - 1, 1 << 31, 1<<31 + 4, 1<<32 - 39, 1<<32 - 1,
	} {
		b := plainOfLength(1, sample(""), length)
		refused(t, "a head with a length that may not be", b, api.ErrCorrupt)
		refused(t, "less than a head with one", b[:headSize-1], api.ErrMore)
		refused(t, "a long list with one", append(b, make([]byte, 1<<17)...), api.ErrCorrupt)
	}
	refused(t, "1,001 bytes", plain(1, sample(strings.Repeat("x", 1001))), api.ErrCorrupt)
}

// The sum counts only when all is there.
func TestDecodeOfAWrongSum(t *testing.T) {
	for _, length := range []int{0, 1, 4, 100, 999, 1000} {
		b := append(plainOfLength(3, sample(""), uint32(length)), make([]byte, 1100)...)
		copy(b[35:39], "SUM!")
		for n := headSize; n < headSize+length; n++ {
			refused(t, "a record that is not all there", b[:n], api.ErrMore)
		}
		for n := headSize + length; n <= len(b); n++ {
			refused(t, "a record with a wrong sum", b[:n], api.ErrCorrupt)
		}
	}
}

// The sum is of the head ahead of it and the Body, of all of them.
func TestDecodeOfSumsOfLess(t *testing.T) {
	b := plain(2, sample("some text"))
	whole := binary.BigEndian.Uint32(b[35:])
	sums := map[string]uint32{
		"nothing":                      0,
		"the head alone":               crc32.Checksum(b[:35], castagnoli),
		"the Body alone":               crc32.Checksum(b[39:], castagnoli),
		"all but SR":                   crc32.Checksum(append(bytes.Clone(b[2:35]), b[39:]...), castagnoli),
		"all but the Body's last byte": crc32.Checksum(append(bytes.Clone(b[:35]), b[39:len(b)-1]...), castagnoli),
		"all, turned over":             ^whole,
		"all, the lowest byte first":   binary.LittleEndian.Uint32(b[35:]),
		"all, by another polynomial":   crc32.ChecksumIEEE(append(bytes.Clone(b[:35]), b[39:]...)),
	}
	for what, sum := range sums {
		wrong := bytes.Clone(b)
		binary.BigEndian.PutUint32(wrong[35:], sum)
		refused(t, "a sum of "+what, wrong, api.ErrCorrupt)
	}
}

// model is what Decode answers, by its words one by one.
func model(b []byte) (api.Record, int, api.Errno) {
	if len(b) < headSize {
		for kind := byte(1); kind <= 4; kind++ {
			if bytes.HasPrefix([]byte{'S', 'R', kind}, b[:min(3, len(b))]) {
				return api.Record{}, 0, api.ErrMore
			}
		}
		return api.Record{}, 0, api.ErrCorrupt
	}
	r := api.Record{
		Kind: int(b[2]), Tenant: binary.BigEndian.Uint32(b[3:]), Epoch: binary.BigEndian.Uint64(b[7:]),
		Object: binary.BigEndian.Uint64(b[15:]), Seq: binary.BigEndian.Uint64(b[23:]),
	}
	length := int64(binary.BigEndian.Uint32(b[31:]))
	numbers := r.Kind >= 1 && r.Kind <= 4 && r.Epoch <= maxNum && r.Object <= maxNum && r.Seq <= maxNum
	if b[0] != 'S' || b[1] != 'R' || !numbers || length > 1000 {
		return api.Record{}, 0, api.ErrCorrupt
	}
	if int64(len(b)) < headSize+length {
		return api.Record{}, 0, api.ErrMore
	}
	r.Body = string(b[headSize : headSize+length])
	if !bytes.HasPrefix(b, plain(b[2], r)) {
		return api.Record{}, 0, api.ErrCorrupt
	}
	return r, headSize + int(length), api.OK
}

// chance is a record that may be, or nearly.
func chance(seeded *rand.Rand) (byte, api.Record) {
	number := func() uint64 {
		switch seeded.Intn(20) {
		case 0:
			return maxNum + uint64(seeded.Intn(3)) - 1
		case 1:
			return seeded.Uint64()
		}
		return uint64(seeded.Int63n(maxNum + 1))
	}
	body := pattern(1100)[:max(0, seeded.Intn(1100)-seeded.Intn(1100))]
	kind := byte(1 + seeded.Intn(4))
	if seeded.Intn(20) == 0 {
		kind = byte(seeded.Intn(256))
	}
	return kind, api.Record{
		Kind: int(kind), Tenant: seeded.Uint32(), Epoch: number(), Object: number(), Seq: number(), Body: string(body),
	}
}

// spoiled is b cut, with bytes changed, or with more behind, or as it is.
func spoiled(seeded *rand.Rand, b []byte) []byte {
	switch seeded.Intn(5) {
	case 0:
		b = b[:seeded.Intn(len(b)+1)]
	case 1:
		b[seeded.Intn(len(b))] = byte(seeded.Intn(256))
	case 2:
		b[seeded.Intn(headSize)] ^= 1 << seeded.Intn(8)
		b = append(b, pattern(seeded.Intn(1200))...)
	case 3:
		b = append(b, pattern(seeded.Intn(100))...)
	}
	return b
}

func TestChance(t *testing.T) {
	seeded := rand.New(rand.NewSource(6))
	count := map[api.Errno]int{}
	for range 30000 {
		kind, r := chance(seeded)
		if whole := plain(kind, r); May(r) != bytes.Equal(Encode(r), whole) {
			t.Fatalf("P6.1: Encode(%#v)", r)
		}
		b := spoiled(seeded, plain(kind, r))
		got, n, err := Decode(b)
		want, wantN, wantErr := model(b)
		if got != want || n != wantN || err != wantErr {
			t.Fatalf("P6.1: Decode(%x): %#v, %d, %d, not %#v, %d, %d", b, got, n, err, want, wantN, wantErr)
		}
		if err == api.OK && !bytes.Equal(Encode(got), b[:n]) {
			t.Fatalf("P6.1: Encode of what Decode told of %x", b)
		}
		count[err]++
	}
	if len(count) != 3 || count[api.OK] < 1000 || count[api.ErrMore] < 1000 || count[api.ErrCorrupt] < 1000 {
		t.Errorf("chance makes too few of a kind: %v", count)
	}
}

// Texts of a few bytes, all that there are of those that matter.
func TestDecodeOfShortTexts(t *testing.T) {
	letters := []byte{'S', 'R', 0, 1, 4, 5, 's', 255}
	texts := [][]byte{nil}
	for range 5 {
		var longer [][]byte
		for _, b := range texts {
			want, _, wantErr := model(b)
			if got, n, err := Decode(b); got != want || n != 0 || err != wantErr {
				t.Fatalf("P6.1: Decode(%q): %#v, %d, %d, not %d", b, got, n, err, wantErr)
			}
			for _, c := range letters {
				longer = append(longer, append(bytes.Clone(b), c))
			}
		}
		texts = longer
	}
}

func TestDecodeOfOneByteManyTimes(t *testing.T) {
	for c := range 256 {
		for _, n := range []int{1, 2, 3, 38, 39, 40, 1039, 1040, 1 << 16} {
			want := api.ErrCorrupt
			if c == 'S' && n == 1 {
				want = api.ErrMore
			}
			refused(t, "one byte many times", bytes.Repeat([]byte{byte(c)}, n), want)
		}
	}
}

func TestDecodeOfALongList(t *testing.T) {
	r := sample(string(pattern(1000)))
	b := append(Encode(r), make([]byte, 1<<22)...)
	if got, n, err := Decode(b); got != r || n != 1039 || err != api.OK {
		t.Errorf("P6.1: Decode of a long list: %d bytes, %d, %d", len(got.Body), n, err)
	}
	b[1038]++
	refused(t, "a long list", b, api.ErrCorrupt)
}

// Who writes into an answer, its spare room too, changes no other one.
func TestEncodeAnswersNewMemory(t *testing.T) {
	for _, r := range good() {
		want := plain(byte(r.Kind), r)
		first := Encode(r)
		first = first[:cap(first)]
		for i := range first {
			first[i] = 0x77
		}
		if second := Encode(r); !bytes.Equal(second, want) {
			t.Fatalf("P0.3: Encode hangs on what was done to another answer: %x", second)
		}
		for _, c := range first {
			if c != 0x77 {
				t.Fatal("P0.3: Encode writes into another answer")
			}
		}
	}
}

// The spare room behind a list is the caller's too.
func TestListStaysAsItWas(t *testing.T) {
	room := append(plain(2, sample("some text")), pattern(100)...)
	before := bytes.Clone(room)
	for n := range len(room) + 1 {
		Decode(room[:n])
		if !bytes.Equal(room, before) {
			t.Fatalf("P0.3: a list of %d bytes or its spare room is changed", n)
		}
	}
}

// What was handed in is the caller's again: its later change must not be seen.
func TestListIsNotKept(t *testing.T) {
	want := sample("some text")
	b := plain(2, want)
	got, n, err := Decode(b)
	for i := range b {
		b[i] = 'X'
	}
	if got != want || n != len(b) || err != api.OK {
		t.Errorf("P0.3: what Decode told hangs on its list: %#v", got)
	}
	refused(t, "what was changed", b, api.ErrCorrupt)
	if got, _, err := Decode(plain(2, want)); got != want || err != api.OK {
		t.Errorf("P0.5: Decode hangs on an earlier call: %#v, %d", got, err)
	}
}

func TestSameAgain(t *testing.T) {
	r, other := sample("first"), api.Record{Kind: 4, Body: "something else"}
	first := Encode(r)
	Encode(other)
	Encode(api.Record{})
	Decode(plain(4, other))
	Decode([]byte("SR\x09"))
	if !bytes.Equal(Encode(r), first) {
		t.Error("P0.5: Encode hangs on an earlier call")
	}
	if got, n, err := Decode(first); got != r || n != len(first) || err != api.OK {
		t.Errorf("P0.5: Decode hangs on an earlier call: %#v, %d, %d", got, n, err)
	}
}
