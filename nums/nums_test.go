package nums_test

import (
	"bytes"
	"math"
	"slices"
	"testing"

	"lodestone/api"
	"lodestone/nums"
)

type numberBytes struct {
	n uint64
	b []byte
}

// known has numbers at the edges of each count of bytes, with bytes written out by hand.
func known() []numberBytes {
	return []numberBytes{
		{0, []byte{0}},
		{1, []byte{1}},
		{127, []byte{0x7f}},
		{128, []byte{0x80, 1}},
		{129, []byte{0x81, 1}},
		{255, []byte{0xff, 1}},
		{256, []byte{0x80, 2}},
		{300, []byte{0xac, 2}},
		{1<<14 - 1, []byte{0xff, 0x7f}},
		{1 << 14, []byte{0x80, 0x80, 1}},
		{1<<21 - 1, []byte{0xff, 0xff, 0x7f}},
		{1 << 21, []byte{0x80, 0x80, 0x80, 1}},
		{1<<32 - 1, []byte{0xff, 0xff, 0xff, 0xff, 0x0f}},
		{1 << 32, []byte{0x80, 0x80, 0x80, 0x80, 0x10}},
		{1<<56 - 1, []byte{0xff, 0xff, 0xff, 0xff, 0xff, 0xff, 0xff, 0x7f}},
		{1 << 56, []byte{0x80, 0x80, 0x80, 0x80, 0x80, 0x80, 0x80, 0x80, 1}},
		{1 << 61, []byte{0x80, 0x80, 0x80, 0x80, 0x80, 0x80, 0x80, 0x80, 0x20}},
		{api.MaxNumber, []byte{0xff, 0xff, 0xff, 0xff, 0xff, 0xff, 0xff, 0xff, 0x3f}},
	}
}

// numbers has those of known, and around each power of two up to MaxNumber.
func numbers() []uint64 {
	var list []uint64
	for _, k := range known() {
		list = append(list, k.n)
	}
	for i := range 62 {
		power := uint64(1) << i
		list = append(list, power-1, power, power+1)
	}
	n := uint64(1)
	for range 2000 {
		n = n*6364136223846793005 + 1442695040888963407
		list = append(list, n>>2, n>>(2+n%62))
	}
	return list
}

// behinds is what may stand behind what was put.
func behinds() [][]byte {
	return [][]byte{nil, {0}, {1}, {0x7f}, {0x80}, {0xff}, bytes.Repeat([]byte{0}, 20), bytes.Repeat([]byte{0xff}, 20)}
}

func followed(b, behind []byte) []byte { return slices.Concat(b, behind) }

func checkGet(t *testing.T, b []byte, n uint64, size int, want api.Errno) {
	t.Helper()
	if m, k, e := nums.Get(b); m != n || k != size || e != want {
		t.Errorf("Get(% x) = %d, %d, %d; want %d, %d, %d", b, m, k, e, n, size, want)
	}
}

func checkGetItem(t *testing.T, b []byte, x api.Item, size int, want api.Errno) {
	t.Helper()
	if y, k, e := nums.GetItem(b); y.ID != x.ID || !slices.Equal(y.V, x.V) || k != size || e != want {
		t.Errorf("GetItem(% x) = %v, %d, %d; want %v, %d, %d", b, y, k, e, x, size, want)
	}
}

// P1.1

func TestPutTellsKnownBytes(t *testing.T) {
	for _, k := range known() {
		if b, e := nums.Put(k.n); !bytes.Equal(b, k.b) || e != api.OK {
			t.Errorf("Put(%d) = % x, %d; want % x", k.n, b, e, k.b)
		}
	}
}

func TestPutRefusesAboveMaxNumber(t *testing.T) {
	for _, n := range []uint64{api.MaxNumber + 1, api.MaxNumber + 2, 1 << 63, math.MaxUint64} {
		if b, e := nums.Put(n); len(b) != 0 || e != api.ErrArg {
			t.Errorf("Put(%d) = % x, %d", n, b, e)
		}
	}
}

func TestPutMarksAllButTheLastByte(t *testing.T) {
	for _, n := range numbers() {
		b, e := nums.Put(n)
		if e != api.OK || len(b) < 1 || len(b) > 9 {
			t.Fatalf("Put(%d) = % x, %d", n, b, e)
		}
		last := len(b) - 1
		for i, c := range b {
			if (c >= 128) != (i < last) {
				t.Errorf("Put(%d) = % x: byte %d", n, b, i)
			}
		}
		if last > 0 && b[last] == 0 {
			t.Errorf("Put(%d) = % x: fewer bytes would do", n, b)
		}
	}
}

func TestGetReadsKnownBytes(t *testing.T) {
	for _, k := range known() {
		for _, behind := range behinds() {
			checkGet(t, followed(k.b, behind), k.n, len(k.b), api.OK)
		}
	}
}

func TestGetNeedsALastByte(t *testing.T) {
	checkGet(t, nil, 0, 0, api.ErrShort)
	checkGet(t, []byte{}, 0, 0, api.ErrShort)
	for _, c := range []byte{0x80, 0x81, 0xff} {
		for size := 1; size <= 8; size++ {
			checkGet(t, bytes.Repeat([]byte{c}, size), 0, 0, api.ErrShort)
		}
	}
}

func TestGetRefusesNineBytesThatGoOn(t *testing.T) {
	for _, c := range []byte{0x80, 0x81, 0xff} {
		nine := bytes.Repeat([]byte{c}, 9)
		for _, behind := range behinds() {
			checkGet(t, followed(nine, behind), 0, 0, api.ErrForm)
		}
	}
}

func TestGetRefusesALastByteZero(t *testing.T) {
	for _, c := range []byte{0x80, 0x81, 0xff} {
		for size := 1; size <= 8; size++ {
			b := append(bytes.Repeat([]byte{c}, size), 0)
			for _, behind := range behinds() {
				checkGet(t, followed(b, behind), 0, 0, api.ErrForm)
			}
		}
	}
	checkGet(t, []byte{0}, 0, 1, api.OK)
	checkGet(t, []byte{0, 0}, 0, 1, api.OK)
}

func TestGetRefusesAboveMaxNumber(t *testing.T) {
	for _, c := range []byte{0x80, 0xff} {
		for last := byte(0x40); last < 0x80; last++ {
			b := append(bytes.Repeat([]byte{c}, 8), last)
			for _, behind := range behinds() {
				checkGet(t, followed(b, behind), 0, 0, api.ErrForm)
			}
		}
	}
}

// P1.2

func TestFoldKnown(t *testing.T) {
	for _, k := range []struct {
		n int64
		m uint64
	}{
		{0, 0}, {-1, 1}, {1, 2}, {-2, 3}, {2, 4}, {-128, 255}, {127, 254},
		{1 << 62, 1 << 63}, {-1 << 62, 1<<63 - 1},
		{math.MaxInt64, math.MaxUint64 - 1}, {math.MinInt64 + 1, math.MaxUint64 - 2}, {math.MinInt64, math.MaxUint64},
	} {
		if m := nums.Fold(k.n); m != k.m {
			t.Errorf("Fold(%d) = %d; want %d", k.n, m, k.m)
		}
		if n := nums.Unfold(k.m); n != k.n {
			t.Errorf("Unfold(%d) = %d; want %d", k.m, n, k.n)
		}
	}
}

func TestFoldAndUnfoldAreOpposite(t *testing.T) {
	check := func(m uint64) {
		if back := nums.Fold(nums.Unfold(m)); back != m {
			t.Errorf("Fold(Unfold(%d)) = %d", m, back)
		}
		if n := int64(m); nums.Unfold(nums.Fold(n)) != n {
			t.Errorf("Unfold(Fold(%d)) = %d", n, nums.Unfold(nums.Fold(n)))
		}
	}
	for _, n := range numbers() {
		check(n)
		check(-n)
		check(math.MaxUint64 - n)
		check(1<<63 + n)
	}
}

// P1.3

func vector(size int) []int8 {
	v := make([]int8, size)
	for i := range v {
		v[i] = int8(i*37 - 128)
	}
	return v
}

func TestPutItemTellsKnownBytes(t *testing.T) {
	for _, k := range []struct {
		x api.Item
		b []byte
	}{
		{api.Item{ID: 5, V: []int8{1, -1}}, []byte{5, 2, 1, 0xff}},
		{api.Item{ID: 0, V: []int8{0}}, []byte{0, 1, 0}},
		{api.Item{ID: 300, V: []int8{127, -128, 0, -2}}, []byte{0xac, 2, 4, 0x7f, 0x80, 0, 0xfe}},
		{api.Item{ID: api.MaxNumber, V: []int8{-127}}, []byte{0xff, 0xff, 0xff, 0xff, 0xff, 0xff, 0xff, 0xff, 0x3f, 1, 0x81}},
		{api.Item{ID: 1, V: make([]int8, api.MaxDim)}, append([]byte{1, 64}, make([]byte, 64)...)},
	} {
		if b, e := nums.PutItem(k.x); !bytes.Equal(b, k.b) || e != api.OK {
			t.Errorf("PutItem(%v) = % x, %d; want % x", k.x, b, e, k.b)
		}
		for _, behind := range behinds() {
			checkGetItem(t, followed(k.b, behind), k.x, len(k.b), api.OK)
		}
	}
}

func TestItemHasEachByte(t *testing.T) {
	for c := range 256 {
		want := c
		if c >= 128 {
			want = c - 256
		}
		x := api.Item{ID: 9, V: []int8{int8(want)}}
		checkGetItem(t, []byte{9, 1, byte(c)}, x, 3, api.OK)
		if b, e := nums.PutItem(x); !bytes.Equal(b, []byte{9, 1, byte(c)}) || e != api.OK {
			t.Errorf("PutItem(%v) = % x, %d", x, b, e)
		}
	}
}

func TestPutItemRefuses(t *testing.T) {
	for _, x := range []api.Item{
		{},
		{ID: 1},
		{ID: 1, V: []int8{}},
		{ID: 1, V: make([]int8, api.MaxDim+1)},
		{ID: 1, V: make([]int8, 1000)},
		{ID: api.MaxNumber + 1, V: []int8{1}},
		{ID: math.MaxUint64, V: []int8{1}},
		{ID: math.MaxUint64},
	} {
		if b, e := nums.PutItem(x); len(b) != 0 || e != api.ErrArg {
			t.Errorf("PutItem(%v) = % x, %d", x, b, e)
		}
	}
}

func TestGetItemRefuses(t *testing.T) {
	nine := bytes.Repeat([]byte{0xff}, 9)
	above := append(bytes.Repeat([]byte{0xff}, 8), 0x40)
	for _, k := range []struct {
		b    []byte
		want api.Errno
	}{
		{nil, api.ErrShort},
		{[]byte{5}, api.ErrShort},
		{[]byte{0x80}, api.ErrShort},
		{[]byte{5, 0x80}, api.ErrShort},
		{[]byte{5, 1}, api.ErrShort},
		{[]byte{5, 2, 1}, api.ErrShort},
		{append([]byte{5, 64}, make([]byte, 63)...), api.ErrShort},
		{[]byte{5, 0}, api.ErrForm},
		{[]byte{5, 0, 1}, api.ErrForm},
		{[]byte{5, 65}, api.ErrForm},
		{append([]byte{5, 65}, make([]byte, 65)...), api.ErrForm},
		{append([]byte{5, 0x81, 1}, make([]byte, 129)...), api.ErrForm},
		{[]byte{5, 0x81, 0, 1}, api.ErrForm},
		{[]byte{0x80, 0, 1, 1}, api.ErrForm},
		{followed(nine, []byte{1, 1}), api.ErrForm},
		{followed(above, []byte{1, 1}), api.ErrForm},
		{followed([]byte{5}, nine), api.ErrForm},
		{followed([]byte{5}, above), api.ErrForm},
		{followed([]byte{5}, []byte{0xff, 0xff, 0xff, 0xff, 0xff, 0xff, 0xff, 0xff, 0x3f}), api.ErrForm},
	} {
		checkGetItem(t, k.b, api.Item{}, 0, k.want)
	}
}

// Which error holds if the ID and what follows are both wrong: the ID's.
func TestGetItemTellsTheFirstError(t *testing.T) {
	checkGetItem(t, []byte{0x80, 0, 0}, api.Item{}, 0, api.ErrForm)
	checkGetItem(t, []byte{0x80, 0}, api.Item{}, 0, api.ErrForm)
	checkGetItem(t, []byte{5, 0x80, 0}, api.Item{}, 0, api.ErrForm)
	checkGetItem(t, []byte{0x80, 0x80}, api.Item{}, 0, api.ErrShort)
}

// P1.4

func TestNumberPutIsGot(t *testing.T) {
	for _, n := range numbers() {
		b, e := nums.Put(n)
		if e != api.OK {
			t.Fatalf("Put(%d): %d", n, e)
		}
		for _, behind := range behinds() {
			checkGet(t, followed(b, behind), n, len(b), api.OK)
		}
		for size := range b {
			checkGet(t, b[:size], 0, 0, api.ErrShort)
		}
	}
}

func TestItemPutIsGot(t *testing.T) {
	for _, id := range []uint64{0, 127, 128, 1 << 40, api.MaxNumber} {
		for size := 1; size <= api.MaxDim; size++ {
			x := api.Item{ID: id, V: vector(size)}
			b, e := nums.PutItem(x)
			if e != api.OK {
				t.Fatalf("PutItem(%v): %d", x, e)
			}
			for _, behind := range behinds() {
				checkGetItem(t, followed(b, behind), x, len(b), api.OK)
			}
			for fewer := range b {
				checkGetItem(t, b[:fewer], api.Item{}, 0, api.ErrShort)
			}
		}
	}
}

func checkGotIsPut(t *testing.T, b []byte) {
	t.Helper()
	if n, k, e := nums.Get(b); e == api.OK {
		if back, e := nums.Put(n); k < 1 || k > len(b) || !bytes.Equal(back, b[:k]) || e != api.OK {
			t.Errorf("Get(% x) = %d, %d; Put answers % x, %d", b, n, k, back, e)
		}
	} else if n != 0 || k != 0 || e != api.ErrShort && e != api.ErrForm {
		t.Errorf("Get(% x) = %d, %d, %d", b, n, k, e)
	}
	if x, k, e := nums.GetItem(b); e == api.OK {
		if back, e := nums.PutItem(x); k < 3 || k > len(b) || !bytes.Equal(back, b[:k]) || e != api.OK {
			t.Errorf("GetItem(% x) = %v, %d; PutItem answers % x, %d", b, x, k, back, e)
		}
	} else if x.ID != 0 || len(x.V) != 0 || k != 0 || e != api.ErrShort && e != api.ErrForm {
		t.Errorf("GetItem(% x) = %v, %d, %d", b, x, k, e)
	}
}

func TestGotIsPut(t *testing.T) {
	for c := range 1 << 16 {
		checkGotIsPut(t, []byte{byte(c), byte(c >> 8)})
	}
	edges := []byte{0, 1, 2, 0x3f, 0x40, 0x41, 0x7f, 0x80, 0xff}
	for _, c := range edges {
		for size := range 12 {
			for _, d := range edges {
				for _, f := range edges {
					checkGotIsPut(t, append(bytes.Repeat([]byte{c}, size), d, f))
				}
			}
		}
	}
}

func FuzzGotIsPut(f *testing.F) {
	for _, k := range known() {
		f.Add(k.b)
	}
	f.Add([]byte{5, 2, 1, 0xff, 9})
	f.Fuzz(checkGotIsPut)
}

// R4, R5

func TestArgumentsStayAsTheyAre(t *testing.T) {
	room := []byte{0xac, 2, 2, 1, 0xff, 9, 9, 9}
	b := room[:5]
	before := bytes.Clone(room)
	nums.Get(b)
	x, _, _ := nums.GetItem(b)
	if !bytes.Equal(room, before) {
		t.Errorf("bytes are % x; were % x", room, before)
	}
	clear(room)
	if x.ID != 300 || !slices.Equal(x.V, []int8{1, -1}) {
		t.Errorf("the item shares memory with its bytes: %v", x)
	}
	v := []int8{1, -1, 7, 7}
	put, _ := nums.PutItem(api.Item{ID: 5, V: v[:2]})
	if !slices.Equal(v, []int8{1, -1, 7, 7}) {
		t.Errorf("the vector is %v", v)
	}
	clear(v)
	if !bytes.Equal(put, []byte{5, 2, 1, 0xff}) {
		t.Errorf("the bytes share memory with the vector: % x", put)
	}
}

func TestAnswersShareNoMemory(t *testing.T) {
	spoil := func(b []byte) {
		for i := range b[:cap(b)] {
			b[:cap(b)][i] = 0xee
		}
	}
	a, _ := nums.Put(300)
	b, _ := nums.Put(300)
	spoil(a)
	if c, _ := nums.Put(300); !bytes.Equal(b, []byte{0xac, 2}) || !bytes.Equal(c, b) {
		t.Errorf("Put: % x, % x", b, c)
	}
	x := api.Item{ID: 5, V: []int8{1, -1}}
	a, _ = nums.PutItem(x)
	b, _ = nums.PutItem(x)
	spoil(a)
	if c, _ := nums.PutItem(x); !bytes.Equal(b, []byte{5, 2, 1, 0xff}) || !bytes.Equal(c, b) {
		t.Errorf("PutItem: % x, % x", b, c)
	}
	y, _, _ := nums.GetItem(b)
	z, _, _ := nums.GetItem(b)
	clear(y.V[:cap(y.V)])
	if !slices.Equal(z.V, x.V) || !bytes.Equal(b, []byte{5, 2, 1, 0xff}) {
		t.Errorf("GetItem: %v, % x", z, b)
	}
}
