package sums_test

import (
	"bytes"
	"hash/crc32"
	"math"
	"slices"
	"testing"

	"lodestone/api"
	"lodestone/sums"
)

// stepwise is the chapter's rule, bit by bit, without a table.
func stepwise(sum uint32, b []byte) uint32 {
	x := sum ^ 0xffffffff
	for _, c := range b {
		x ^= uint32(c)
		for range 8 {
			lowest := x % 2
			x /= 2
			if lowest == 1 {
				x ^= 0x82f63b78
			}
		}
	}
	return x ^ 0xffffffff
}

// noise is bytes without a pattern, the same ones each time.
func noise(size int) []byte {
	b := make([]byte, size)
	x := uint64(size) + 1
	for i := range b {
		x = x*6364136223846793005 + 1442695040888963407
		b[i] = byte(x >> 56)
	}
	return b
}

// starts is sums to go on from: 0, edges, and any number.
func starts() []uint32 {
	list := []uint32{0, 1, 7, 0x7fffffff, 0x80000000, 0x82f63b78, math.MaxUint32 - 1, math.MaxUint32}
	for i := range 32 {
		list = append(list, 1<<i)
	}
	x := uint32(1)
	for range 50 {
		x = x*1664525 + 1013904223
		list = append(list, x)
	}
	return list
}

func checkSum(t *testing.T, b []byte, want uint32) {
	t.Helper()
	if x, e := sums.Sum(b); x != want || e != api.OK {
		t.Errorf("Sum(%d bytes) = %08x, %d; want %08x", len(b), x, e, want)
	}
}

func checkMore(t *testing.T, sum uint32, b []byte, want uint32) {
	t.Helper()
	if x, e := sums.More(sum, b); x != want || e != api.OK {
		t.Errorf("More(%08x, %d bytes) = %08x, %d; want %08x", sum, len(b), x, e, want)
	}
}

func mustSum(t *testing.T, b []byte) uint32 {
	t.Helper()
	x, e := sums.Sum(b)
	if e != api.OK {
		t.Fatalf("Sum(%d bytes): %d", len(b), e)
	}
	return x
}

// P2.1

func TestSumKnown(t *testing.T) {
	rising := make([]byte, 32)
	falling := make([]byte, 32)
	for i := range rising {
		rising[i] = byte(i)
		falling[i] = byte(31 - i)
	}
	checkSum(t, nil, 0)
	checkSum(t, []byte{}, 0)
	checkSum(t, []byte("123456789"), 0xe3069283)
	checkSum(t, make([]byte, 32), 0x8a9136aa)
	checkSum(t, bytes.Repeat([]byte{255}, 32), 0x62a8ab43)
	checkSum(t, rising, 0x46dd794e)
	checkSum(t, falling, 0x113fdb5c)
	checkSum(t, []byte("a"), 0xc1d04330)
}

func TestSumOfEachByte(t *testing.T) {
	for c := range 256 {
		b := []byte{byte(c)}
		checkSum(t, b, stepwise(0, b))
	}
}

func TestSumOfEachLength(t *testing.T) {
	castagnoli := crc32.MakeTable(crc32.Castagnoli)
	for size := range 600 {
		b := noise(size)
		checkSum(t, b, stepwise(0, b))
		checkSum(t, b, crc32.Checksum(b, castagnoli))
	}
}

func TestSumUpToMaxBytes(t *testing.T) {
	b := noise(api.MaxBytes)
	checkSum(t, b, stepwise(0, b))
	checkSum(t, b[1:], stepwise(0, b[1:]))
}

func TestSumRefusesAboveMaxBytes(t *testing.T) {
	for _, size := range []int{api.MaxBytes + 1, api.MaxBytes + 2, 2 * api.MaxBytes, 16 * api.MaxBytes} {
		if x, e := sums.Sum(noise(size)); x != 0 || e != api.ErrLimit {
			t.Errorf("Sum(%d bytes) = %08x, %d", size, x, e)
		}
	}
}

// Bytes above the limit that stand in a list's spare room do not count.
func TestSumCountsNoSpareRoom(t *testing.T) {
	b := noise(api.MaxBytes + 9)
	checkSum(t, b[:api.MaxBytes], stepwise(0, b[:api.MaxBytes]))
	checkSum(t, b[:3], stepwise(0, b[:3]))
	checkSum(t, b[:0], 0)
}

// P2.2

func TestMoreOfNoBytesIsTheSum(t *testing.T) {
	for _, sum := range starts() {
		checkMore(t, sum, nil, sum)
		checkMore(t, sum, []byte{}, sum)
	}
}

func TestMoreKnown(t *testing.T) {
	checkMore(t, mustSum(t, []byte("1234")), []byte("56789"), 0xe3069283)
	checkMore(t, 0, []byte("123456789"), 0xe3069283)
	// The sum, turned, and the byte take each other off: 0 is left, and stays 0 all the way down.
	checkMore(t, math.MaxUint32, []byte{0}, math.MaxUint32)
	checkMore(t, 0xffffff00, []byte{255}, math.MaxUint32)
}

func TestMoreFromAnyNumber(t *testing.T) {
	for _, sum := range starts() {
		for _, size := range []int{1, 2, 3, 4, 5, 8, 31, 512} {
			b := noise(size)
			checkMore(t, sum, b, stepwise(sum, b))
		}
		for c := range 256 {
			b := []byte{byte(c)}
			checkMore(t, sum, b, stepwise(sum, b))
		}
	}
}

func TestMoreFromZeroIsTheSum(t *testing.T) {
	for size := range 100 {
		b := noise(size)
		checkMore(t, 0, b, mustSum(t, b))
	}
}

func TestMoreUpToMaxBytes(t *testing.T) {
	b := noise(api.MaxBytes)
	for _, sum := range []uint32{1, 0x82f63b78, math.MaxUint32} {
		checkMore(t, sum, b, stepwise(sum, b))
	}
}

func TestMoreRefusesAboveMaxBytes(t *testing.T) {
	b := noise(api.MaxBytes + 1)
	for _, sum := range starts() {
		if x, e := sums.More(sum, b); x != 0 || e != api.ErrLimit {
			t.Errorf("More(%08x, %d bytes) = %08x, %d", sum, len(b), x, e)
		}
	}
}

// P2.3

func checkParts(t *testing.T, b []byte, cut int) {
	t.Helper()
	checkMore(t, mustSum(t, b[:cut]), b[cut:], mustSum(t, b))
}

func TestSumGoesOnAtEachCut(t *testing.T) {
	for _, size := range []int{0, 1, 2, 9, 64, 300} {
		b := noise(size)
		for cut := range size + 1 {
			checkParts(t, b, cut)
		}
	}
}

func TestSumGoesOnInManyParts(t *testing.T) {
	b := noise(1000)
	for _, size := range []int{1, 2, 3, 7, 333, 999, 1000} {
		x := uint32(0)
		for part := range slices.Chunk(b, size) {
			next, e := sums.More(x, part)
			if e != api.OK {
				t.Fatalf("More(%08x, %d bytes): %d", x, len(part), e)
			}
			x = next
		}
		if want := mustSum(t, b); x != want {
			t.Errorf("parts of %d bytes: %08x; want %08x", size, x, want)
		}
	}
}

// The limit is one call's: parts that are no longer each may be longer together.
func TestSumGoesOnAboveMaxBytes(t *testing.T) {
	b := noise(2 * api.MaxBytes)
	checkMore(t, mustSum(t, b[:api.MaxBytes]), b[api.MaxBytes:], stepwise(0, b))
}

// flipBits turns the bits of a pattern over, from a bit's place on, each byte's lowest bit first.
func flipBits(b []byte, place int, pattern uint32) []byte {
	changed := bytes.Clone(b)
	for i := range 32 {
		if pattern>>i&1 == 1 {
			at := place + i
			changed[at/8] ^= 1 << (at % 8)
		}
	}
	return changed
}

func checkChange(t *testing.T, b, changed []byte) {
	t.Helper()
	if x := mustSum(t, changed); x == mustSum(t, b) {
		t.Errorf("Sum(% x) and Sum(% x) are both %08x", b, changed, x)
	}
}

func bodies() [][]byte {
	return [][]byte{make([]byte, 12), bytes.Repeat([]byte{255}, 12), noise(12)}
}

// Each pattern at each place of a bit, also across five bytes.
func TestChangeWithin32BitsChangesTheSum(t *testing.T) {
	for _, b := range bodies() {
		last := 8*len(b) - 32
		for place := range last + 1 {
			for _, pattern := range starts() {
				if pattern != 0 {
					checkChange(t, b, flipBits(b, place, pattern))
				}
			}
		}
	}
}

func TestChangeOfOneByteChangesTheSum(t *testing.T) {
	for _, b := range bodies() {
		for place := range b {
			for change := 1; change < 256; change++ {
				changed := bytes.Clone(b)
				changed[place] ^= byte(change)
				checkChange(t, b, changed)
			}
		}
	}
}

func TestChangeOfBytesSideBySideChangesTheSum(t *testing.T) {
	b := noise(40)
	for size := 1; size <= 4; size++ {
		for place := range len(b) - size + 1 {
			for round := range 20 {
				changed := bytes.Clone(b)
				for i, c := range noise(1000 + round)[:size] {
					changed[place+i] ^= c | 1
				}
				checkChange(t, b, changed)
			}
		}
	}
}

// All two-byte texts have sums of their own, for what is unlike within 32 bits is told apart.
func TestShortTextsHaveUnlikeSums(t *testing.T) {
	seen := map[uint32]int{}
	for n := range 1 << 16 {
		x := mustSum(t, []byte{byte(n), byte(n >> 8)})
		if m, ok := seen[x]; ok {
			t.Fatalf("%04x and %04x have the same sum %08x", m, n, x)
		}
		seen[x] = n
	}
}

func TestChangeInMaxBytesChangesTheSum(t *testing.T) {
	b := noise(api.MaxBytes)
	want := mustSum(t, b)
	for _, place := range []int{0, 12345, api.MaxBytes / 2, api.MaxBytes - 4} {
		for _, pattern := range []uint32{1, 1 << 31, 0x80000001, 0x82f63b78, math.MaxUint32} {
			if x := mustSum(t, flipBits(b, 8*place, pattern)); x == want {
				t.Errorf("%08x at byte %d: the sum is still %08x", pattern, place, x)
			}
		}
	}
}

func FuzzSum(f *testing.F) {
	f.Add(uint32(0), []byte("123456789"), 4)
	f.Add(uint32(7), []byte{}, 0)
	f.Fuzz(func(t *testing.T, sum uint32, b []byte, cut int) {
		if len(b) > api.MaxBytes {
			return
		}
		checkMore(t, sum, b, stepwise(sum, b))
		if 0 <= cut && cut <= len(b) {
			checkParts(t, b, cut)
		}
	})
}

// R4, R5

func TestArgumentsStayAsTheyAre(t *testing.T) {
	room := noise(64)
	before := bytes.Clone(room)
	sums.Sum(room[8:40])
	sums.More(7, room[8:40])
	if !bytes.Equal(room, before) {
		t.Errorf("bytes are % x; were % x", room, before)
	}
}

func TestCallsLeaveNothingBehind(t *testing.T) {
	b := []byte("123456789")
	other := noise(512)
	tooMany := make([]byte, api.MaxBytes+1)
	for range 3 {
		sums.Sum(other)
		checkSum(t, b, 0xe3069283)
		sums.More(math.MaxUint32, other)
		checkSum(t, b, 0xe3069283)
		sums.Sum(tooMany)
		checkMore(t, 7, nil, 7)
		checkSum(t, b, 0xe3069283)
	}
}

func TestCallsSideBySideDoNotDisturbEachOther(t *testing.T) {
	type answer struct{ got, want uint32 }
	answers := make(chan answer)
	const callers = 8
	for i := range callers {
		go func() {
			b := noise(5000 + i)
			x, _ := sums.Sum(b)
			answers <- answer{x, stepwise(0, b)}
		}()
	}
	for range callers {
		if a := <-answers; a.got != a.want {
			t.Errorf("%08x; want %08x", a.got, a.want)
		}
	}
}
