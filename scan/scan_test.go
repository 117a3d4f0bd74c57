package scan

import (
	"bytes"
	"encoding/binary"
	"encoding/hex"
	"hash/crc32"
	"math/rand"
	"slices"
	"testing"

	"stillroom/api"
)

const (
	headSize = 39
	maxNum   = 1 << 40
)

// castagnoli is for another's reckoning of the same sum.
var castagnoli = crc32.MakeTable(crc32.Castagnoli)

// plain is a record as bytes, by another way than the program's.
func plain(r api.Record) []byte {
	return plainOfLength(r, uint32(len(r.Body)))
}

// plainOfLength is one whose head tells a length that need not be its Body's.
// Its sum is right.
func plainOfLength(r api.Record, length uint32) []byte {
	b := []byte{'S', 'R', byte(r.Kind)}
	b = binary.BigEndian.AppendUint32(b, r.Tenant)
	b = binary.BigEndian.AppendUint64(b, r.Epoch)
	b = binary.BigEndian.AppendUint64(b, r.Object)
	b = binary.BigEndian.AppendUint64(b, r.Seq)
	b = binary.BigEndian.AppendUint32(b, length)
	b = binary.BigEndian.AppendUint32(b, crc32.Checksum(append(bytes.Clone(b), r.Body...), castagnoli))
	return append(b, r.Body...)
}

// pattern makes n bytes that do not repeat soon.
func pattern(n int) []byte {
	b := make([]byte, n)
	x := uint32(12345)
	for i := range b {
		x = x*1664525 + 1013904223
		b[i] = byte(x >> 24)
	}
	return b
}

// numbered is a record, each of whose numbers hangs on n.
func numbered(n int, body string) api.Record {
	return api.Record{
		Kind: 1 + n%4, Tenant: uint32(n * 1000003), Epoch: uint64(n), Object: uint64(n * 7), Seq: maxNum - uint64(n), Body: body,
	}
}

// joined is texts one behind the other.
func joined(texts ...[]byte) []byte {
	return slices.Concat(texts...)
}

// modelRecord is the record that b begins with, by the words of doc/06 one by
// one; 0 bytes: none.
func modelRecord(b []byte) (api.Record, int) {
	if len(b) < headSize || b[0] != 'S' || b[1] != 'R' || b[2] < 1 || b[2] > 4 {
		return api.Record{}, 0
	}
	r := api.Record{
		Kind: int(b[2]), Tenant: binary.BigEndian.Uint32(b[3:]), Epoch: binary.BigEndian.Uint64(b[7:]),
		Object: binary.BigEndian.Uint64(b[15:]), Seq: binary.BigEndian.Uint64(b[23:]),
	}
	length := int64(binary.BigEndian.Uint32(b[31:]))
	if max(r.Epoch, r.Object, r.Seq) > maxNum || length > 1000 || int64(len(b)) < headSize+length {
		return api.Record{}, 0
	}
	r.Body = string(b[headSize : headSize+length])
	if !bytes.HasPrefix(b, plain(r)) {
		return api.Record{}, 0
	}
	return r, headSize + len(r.Body)
}

// modelAll is what All answers: first what stands at each place, then those that
// do not begin within one that is found.
func modelAll(b []byte) []Found {
	var list []Found
	behind := 0
	for at := range b {
		r, size := modelRecord(b[at:])
		if size > 0 && at >= behind {
			list = append(list, Found{at, r})
			behind = at + size
		}
	}
	return list
}

// modelFront is what Front answers: those of All that leave no gap.
func modelFront(b []byte) ([]Found, int) {
	var list []Found
	behind := 0
	for _, f := range modelAll(b) {
		if f.At != behind {
			break
		}
		list = append(list, f)
		behind += headSize + len(f.R.Body)
	}
	return list, behind
}

// checkAll holds All against what it should tell.
func checkAll(t *testing.T, what string, b []byte, want []Found) {
	t.Helper()
	if got := All(b); !slices.Equal(got, want) {
		t.Errorf("P7.1: All of %s: %s, not %s", what, told(got), told(want))
	}
}

// checkFront holds Front against what it should tell.
func checkFront(t *testing.T, what string, b []byte, want []Found, wantSize int) {
	t.Helper()
	if got, size := Front(b); !slices.Equal(got, want) || size != wantSize {
		t.Errorf("P7.1: Front of %s: %s, %d, not %s, %d", what, told(got), size, told(want), wantSize)
	}
}

// checkBoth holds both against the model.
func checkBoth(t *testing.T, what string, b []byte) {
	t.Helper()
	checkAll(t, what, b, modelAll(b))
	want, wantSize := modelFront(b)
	checkFront(t, what, b, want, wantSize)
}

// told is a list's places and the numbers of its records, for a fault's text.
func told(list []Found) string {
	var b []byte
	for _, f := range list {
		b = append(b, '[')
		for _, n := range []uint64{uint64(f.At), uint64(f.R.Kind), uint64(f.R.Seq), uint64(len(f.R.Body))} {
			b = append(b, ' ')
			for shift := 40; shift >= 0; shift -= 4 {
				b = append(b, "0123456789abcdef"[n>>shift&15])
			}
		}
		b = append(b, " ]"...)
	}
	return string(b)
}

// Records as bytes that stand here as digits hang on no other program.
func TestKnown(t *testing.T) {
	b, err := hex.DecodeString("53520100000000" + "0000000000000000" + "0000000000000000" + "0000000000000000" + "00000000" + "9b59d870" +
		"53520201020304" + "0000000506070809" + "0000000a0b0c0d0e" + "0000000f10111213" + "00000005" + "da2cb833" + "61626300ff" +
		"535253" +
		"535204ffffffff" + "0000010000000000" + "0000010000000000" + "0000010000000000" + "00000000" + "30971dc6")
	if err != nil {
		t.Fatal(err)
	}
	want := []Found{
		{0, api.Record{Kind: 1}},
		{39, api.Record{Kind: 2, Tenant: 0x01020304, Epoch: 0x0506070809, Object: 0x0a0b0c0d0e, Seq: 0x0f10111213, Body: "abc\x00\xff"}},
		{86, api.Record{Kind: 4, Tenant: 0xffffffff, Epoch: 1 << 40, Object: 1 << 40, Seq: 1 << 40}},
	}
	checkAll(t, "known records", b, want)
	checkFront(t, "known records", b, want[:2], 83)
}

// Where there is no record nothing is told.
func TestNone(t *testing.T) {
	one := plain(numbered(5, "body"))
	texts := map[string][]byte{
		"nil":                     nil,
		"none":                    {},
		"a byte":                  {'x'},
		"the first of a mark":     []byte("S"),
		"a mark":                  []byte("SR"),
		"a mark and a kind":       []byte("SR\x01"),
		"a mark and no kind":      []byte("SR\x00"),
		"marks":                   bytes.Repeat([]byte("SR"), 500),
		"marks and kinds":         bytes.Repeat([]byte("SR\x02"), 500),
		"noughts":                 make([]byte, 5000),
		"noise":                   pattern(5000),
		"a head cut short":        one[:headSize-1],
		"a Body cut short":        one[:len(one)-1],
		"all but a mark's first":  one[1:],
		"its end ahead of itself": joined(one[10:], one[:10]),
		"one turned over":         func() []byte { b := bytes.Clone(one); slices.Reverse(b); return b }(),
	}
	for what, b := range texts {
		checkAll(t, what, b, nil)
		checkFront(t, what, b, nil, 0)
	}
}

// Each kind, each length of a Body, at 0 and behind something.
func TestOne(t *testing.T) {
	all := string(pattern(1000))
	for n := range len(all) + 1 {
		r := numbered(n, all[:n])
		b := plain(r)
		checkAll(t, "one", b, []Found{{0, r}})
		checkFront(t, "one", b, []Found{{0, r}}, len(b))
		b = joined([]byte("SRx"), b, []byte("SRy"))
		checkAll(t, "one behind something", b, []Found{{3, r}})
		checkFront(t, "one behind something", b, nil, 0)
		checkFront(t, "one ahead of something", b[3:], []Found{{0, r}}, len(b)-6)
	}
}

// The numbers of what stands side by side are no business of a scan: other
// tenants, lower Seqs and the same one again are told like all else.
func TestOneBehindTheOther(t *testing.T) {
	var b []byte
	var want []Found
	for n := range 200 {
		r := numbered(n%7*n, string(pattern(n*5)))
		for range 1 + n%2 {
			want = append(want, Found{len(b), r})
			b = append(b, plain(r)...)
		}
	}
	checkAll(t, "records side by side", b, want)
	checkFront(t, "records side by side", b, want, len(b))
	for i := range want {
		rest := b[want[i].At:]
		if got := All(rest); len(got) != len(want)-i || got[0] != (Found{0, want[i].R}) {
			t.Fatalf("P7.1: All from the record %d on: %d of them", i, len(got))
		}
		if got, size := Front(b[:want[i].At]); !slices.Equal(got, want[:i]) || size != want[i].At {
			t.Fatalf("P7.1: Front up to the record %d: %d of them, %d bytes", i, len(got), size)
		}
	}
}

// gaps are bytes that no record stands in, nor begins in to end behind them.
func gaps() [][]byte {
	one := plain(numbered(3, "gap"))
	wrong := bytes.Clone(one)
	wrong[len(wrong)-1]++
	list := [][]byte{
		[]byte("S"), []byte("SR"), []byte("SSR"), []byte("SR\x01"), []byte("SR\x05"), {0},
		one[:3], one[:20], one[:headSize-1], one[:headSize], one[:len(one)-1], wrong, one[1:],
		plainOfLength(numbered(1, "x"), 1001), plainOfLength(numbered(1, "x"), 1<<32-1),
		plain(api.Record{Kind: 0}), plain(api.Record{Kind: 5}), plain(api.Record{Kind: 1, Epoch: maxNum + 1}),
		plain(api.Record{Kind: 1, Object: maxNum + 1}), plain(api.Record{Kind: 1, Seq: maxNum + 1}),
	}
	for n := range 100 {
		list = append(list, pattern(n+1), make([]byte, n+1))
	}
	return list
}

// Front goes no further than the first gap, All goes over it byte by byte.
func TestGaps(t *testing.T) {
	first, second, third := numbered(1, "first"), numbered(2, ""), numbered(3, "the third")
	for _, gap := range gaps() {
		b := joined(plain(first), plain(second), gap, plain(third), plain(first))
		at := 83 + len(gap)
		want := []Found{{0, first}, {44, second}, {at, third}, {at + 48, first}}
		checkAll(t, "a gap of "+hex.EncodeToString(gap), b, want)
		checkFront(t, "a gap of "+hex.EncodeToString(gap), b, want[:2], 83)
		b = joined(gap, plain(third), gap, plain(second), gap)
		at = 2*len(gap) + 48
		want = []Found{{len(gap), third}, {at, second}}
		checkAll(t, "three gaps of "+hex.EncodeToString(gap), b, want)
		checkFront(t, "three gaps of "+hex.EncodeToString(gap), b, nil, 0)
	}
}

// A record in another one's Body is told only where that other one does not
// stand.
func TestWithin(t *testing.T) {
	inner, last := numbered(1, "inner"), numbered(2, "last")
	for _, ahead := range []string{"", "S", "SR", "xyz"} {
		body := ahead + string(plain(inner)) + string(plain(last)) + ahead
		outer := numbered(3, body)
		b := joined(plain(outer), plain(last))
		whole := []Found{{0, outer}, {headSize + len(body), last}}
		checkAll(t, "one in another", b, whole)
		checkFront(t, "one in another", b, whole, len(b))
		at := headSize + len(ahead)
		for i := range at {
			wrong := bytes.Clone(b)
			wrong[i] ^= 0x80
			checkAll(t, "one in a broken one", wrong, []Found{{at, inner}, {at + 44, last}, whole[1]})
			checkFront(t, "one in a broken one", wrong, nil, 0)
		}
		wrong := bytes.Clone(b)
		wrong[at+headSize]++
		checkAll(t, "a broken one in a broken one", wrong, []Found{{at + 44, last}, whole[1]})
	}
	deep := numbered(0, "deep")
	for n := range 20 {
		deep = numbered(n, string(plain(deep)))
	}
	checkAll(t, "one in one in one", plain(deep), []Found{{0, deep}})
	wrong := plain(deep)
	wrong[headSize*3]++
	checkBoth(t, "one in one in a broken one", wrong)
	if got := All(wrong); len(got) != 1 || got[0].At != headSize*4 {
		t.Errorf("P7.1: All of one in one in a broken one: %s", told(got))
	}
}

// What begins within a record is not told, though it ends behind it.
func TestOverlap(t *testing.T) {
	second := numbered(2, "the second's body")
	whole := plain(second)
	for n := range len(whole) {
		first := numbered(1, "first "+string(whole[:n]))
		b := joined(plain(first), whole[n:])
		var want []Found
		if n == 0 {
			want = []Found{{headSize + 6, second}}
		}
		want = append([]Found{{0, first}}, want...)
		checkAll(t, "two that overlap", b, want)
		behind := headSize + 6 + n
		if n == 0 {
			behind = len(b)
		}
		checkFront(t, "two that overlap", b, want, behind)
		b[headSize]++
		checkAll(t, "two that overlap, the first broken", b, []Found{{headSize + 6, second}})
		checkFront(t, "two that overlap, the first broken", b, nil, 0)
	}
}

// A head that tells more than there is may yet be a record's; what stands behind
// it is told all the same.
func TestMoreThanThereIs(t *testing.T) {
	first, second := numbered(1, "first"), numbered(2, "second")
	for _, length := range []uint32{1, 88, 89, 90, 500, 1000} {
		for _, ahead := range [][]byte{nil, plain(first), []byte("SR")} {
			open := plainOfLength(numbered(3, ""), length)
			b := joined(ahead, open, plain(first), plain(second))
			at := len(ahead) + len(open)
			want := []Found{{at, first}, {at + 44, second}}
			if len(ahead) == 44 {
				want = append([]Found{{0, first}}, want...)
			}
			checkAll(t, "what is behind an open head", b, want)
			checkBoth(t, "what is behind an open head", b)
		}
	}
	for n := range 60 {
		b := joined(bytes.Repeat([]byte("SR\x01"), n), plain(second))
		checkAll(t, "one behind marks", b, []Found{{3 * n, second}})
	}
}

// A record may begin already within a head that tells more than there is: with
// small numbers its mark lies where the other one's numbers may be anything.
func TestWithinAnOpenHead(t *testing.T) {
	open := plainOfLength(api.Record{Kind: 2}, 1000)
	for n := range open {
		for _, r := range []api.Record{{Kind: 1}, {Kind: 1, Seq: 3}, {Kind: 4, Seq: 1, Body: "body"}} {
			b := joined(open[:n], plain(r))
			checkAll(t, "one within an open head", b, []Found{{n, r}})
			checkBoth(t, "one within an open head", b)
		}
	}
}

// stream is some records, and something else among them.
func stream() []byte {
	inner := plain(numbered(9, "in"))
	return joined(
		plain(numbered(1, "a")), plain(numbered(2, string(inner))), plain(numbered(3, "")),
		[]byte("SSRxx"), plain(numbered(4, "SR\x01")), inner[:20], plain(numbered(5, "end")), []byte("S"))
}

// Wherever it is cut, at its beginning and at its end.
func TestEachCut(t *testing.T) {
	b := stream()
	for from := range len(b) + 1 {
		for to := from; to <= len(b); to++ {
			checkBoth(t, "a piece", b[from:to:to])
		}
	}
}

func TestEachBitWrong(t *testing.T) {
	b := stream()
	for i := range b {
		for bit := range 8 {
			b[i] ^= 1 << bit
			checkBoth(t, "a stream with a wrong bit", b)
			b[i] ^= 1 << bit
		}
	}
	if all := All(b); len(all) != 5 {
		t.Errorf("P7.1: All of the stream: %s", told(all))
	}
}

func TestEachByteLeftOutOrPutIn(t *testing.T) {
	b := stream()
	for i := range b {
		checkBoth(t, "a stream without a byte", slices.Delete(bytes.Clone(b), i, i+1))
		for _, c := range []byte{0, 1, 'S', 'R', 0xff} {
			checkBoth(t, "a stream with one more", slices.Insert(bytes.Clone(b), i, c))
		}
	}
}

// chance is something of a stream: a record, a broken one, or bytes of some
// other kind.
func chance(seeded *rand.Rand, deep int) []byte {
	body := string(pattern(1000)[:seeded.Intn(40)])
	if deep > 0 && seeded.Intn(3) == 0 {
		body = string(chance(seeded, deep-1)) + string(chance(seeded, deep-1))
	}
	b := plain(numbered(seeded.Intn(1000), body[:min(len(body), 1000)]))
	switch seeded.Intn(8) {
	case 0:
		return b[:seeded.Intn(len(b))]
	case 1:
		b[seeded.Intn(len(b))] ^= byte(1 + seeded.Intn(255))
	case 2:
		return []byte("SSRR\x01\x02S")[seeded.Intn(4):][:1+seeded.Intn(3)]
	case 3:
		return plainOfLength(numbered(seeded.Intn(1000), ""), uint32(seeded.Intn(1002)))
	}
	return b
}

func TestChance(t *testing.T) {
	seeded := rand.New(rand.NewSource(7))
	found, gaps := 0, 0
	for range 4000 {
		var b []byte
		for range seeded.Intn(12) {
			b = append(b, chance(seeded, 3)...)
		}
		checkBoth(t, "a chance stream", b)
		all := All(b)
		found += len(all)
		if front, _ := Front(b); len(front) < len(all) {
			gaps++
		}
		if t.Failed() {
			t.Fatalf("of the bytes %x", b)
		}
	}
	if found < 10000 || gaps < 1000 {
		t.Errorf("chance makes too little: %d records, %d gaps", found, gaps)
	}
}

// Long lists end, also those where at each place a record may seem to begin.
func TestLong(t *testing.T) {
	const size = 1 << 22
	long := map[string][]byte{
		"noughts":    make([]byte, size),
		"S":          bytes.Repeat([]byte("S"), size),
		"marks":      bytes.Repeat([]byte("SR\x01"), size/3),
		"open heads": bytes.Repeat(plainOfLength(numbered(1, ""), 1000), size/headSize),
	}
	for what, b := range long {
		checkAll(t, what, b, nil)
		checkFront(t, what, b, nil, 0)
	}
	r := numbered(1, "")
	one := plain(r)
	b := bytes.Repeat(one, size/headSize)
	front, n := Front(b)
	all := All(b)
	if n != len(b) || len(front) != size/headSize || !slices.Equal(front, all) {
		t.Fatalf("P7.1: of many records All tells %d, Front %d in %d bytes", len(all), len(front), n)
	}
	for i, f := range all {
		if f != (Found{i * headSize, r}) {
			t.Fatalf("P7.1: All of many records: the record %d: %s", i, told(all[i:i+1]))
		}
	}
	last := joined(make([]byte, size), one)
	checkAll(t, "one behind many noughts", last, []Found{{size, r}})
}

// The spare room behind a list is the caller's: it is neither read nor changed.
func TestListStaysAsItWas(t *testing.T) {
	room := joined(stream(), plain(numbered(6, "room")))
	before := bytes.Clone(room)
	for n := range len(room) + 1 {
		checkBoth(t, "a list with room behind it", room[:n])
		if !bytes.Equal(room, before) {
			t.Fatalf("P0.3: a list of %d bytes or its spare room is changed", n)
		}
	}
}

// What was handed in is the caller's again: its later change must not be seen.
func TestListIsNotKept(t *testing.T) {
	b := stream()
	wantAll := modelAll(b)
	wantFront, wantSize := modelFront(b)
	all := All(b)
	front, size := Front(b)
	for i := range b {
		b[i] = 'X'
	}
	if !slices.Equal(all, wantAll) {
		t.Errorf("P0.3: what All told hangs on its list: %s", told(all))
	}
	if !slices.Equal(front, wantFront) || size != wantSize {
		t.Errorf("P0.3: what Front told hangs on its list: %s", told(front))
	}
	checkAll(t, "what was changed", b, nil)
	checkFront(t, "what was changed", b, nil, 0)
	checkBoth(t, "the stream again", stream())
}

// Who writes into an answer, its spare room too, changes no other one.
func TestAnswersAreNewMemory(t *testing.T) {
	b := stream()
	want := modelAll(b)
	wantFront, wantSize := modelFront(b)
	all, front := All(b), func() []Found { f, _ := Front(b); return f }()
	other := Found{-1, numbered(8, "other")}
	for _, list := range [][]Found{all, front} {
		list = list[:cap(list)]
		for i := range list {
			list[i] = other
		}
	}
	checkAll(t, "the stream again", b, want)
	checkFront(t, "the stream again", b, wantFront, wantSize)
	for _, list := range [][]Found{all, front} {
		for _, f := range list[:cap(list)] {
			if f != other {
				t.Fatal("P0.3: a call writes into another one's answer")
			}
		}
	}
}
