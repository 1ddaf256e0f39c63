package draws_test

import (
	"math"
	"math/big"
	"slices"
	"testing"

	"lodestone/api"
	"lodestone/draws"
	"lodestone/samples"
)

const (
	gap      = uint64(0x9e3779b97f4a7c15)
	greatest = uint64(math.MaxUint64)
	noughts  = uint64(0x61c8864680b583eb) // the seed behind it is 0, and so is its number
)

func hexNumber(digits string) *big.Int {
	n, _ := new(big.Int).SetString(digits, 16)
	return n
}

// cut takes off what is above 64 bits.
func cut(n *big.Int) *big.Int { return n.Mod(n, new(big.Int).Lsh(big.NewInt(1), 64)) }

// plainNext is the document's words in numbers of any size.
func plainNext(seed uint64) (uint64, uint64) {
	s := new(big.Int).SetUint64(seed)
	cut(s.Add(s, hexNumber("9e3779b97f4a7c15")))
	mixed := func(z *big.Int, bits uint) *big.Int { return new(big.Int).Xor(z, new(big.Int).Rsh(z, bits)) }
	z := cut(new(big.Int).Mul(mixed(s, 30), hexNumber("bf58476d1ce4e5b9")))
	z = cut(z.Mul(mixed(z, 27), hexNumber("94d049bb133111eb")))
	return mixed(z, 31).Uint64(), s.Uint64()
}

func plainBelow(seed uint64, n int) (int, uint64) {
	number, behind := plainNext(seed)
	rest := new(big.Int).Mod(new(big.Int).SetUint64(number), big.NewInt(int64(n)))
	return int(rest.Int64()), behind
}

// plainShuffle is the document's words, place by place.
func plainShuffle(seed uint64, n int) ([]int, uint64) {
	l := samples.UpTo(n)
	for i := n - 1; i >= 1; i-- {
		drawn, behind := plainBelow(seed, i+1)
		there := l[i]
		l[i] = l[drawn]
		l[drawn] = there
		seed = behind
	}
	return l, seed
}

// plainPick puts the numbers in order by going through all that there are.
func plainPick(seed uint64, n, k int) ([]int, uint64) {
	l, behind := plainShuffle(seed, n)
	var picked []int
	for i := range n {
		if slices.Contains(l[:k], i) {
			picked = append(picked, i)
		}
	}
	return picked, behind
}

func checkNext(t *testing.T, seed, want, wantBehind uint64) {
	t.Helper()
	if n, behind := draws.Next(seed); n != want || behind != wantBehind {
		t.Errorf("Next(%x) = %x, %x; want %x, %x", seed, n, behind, want, wantBehind)
	}
}

func checkBelow(t *testing.T, seed uint64, n, want int, wantBehind uint64) {
	t.Helper()
	if m, behind, e := draws.Below(seed, n); m != want || behind != wantBehind || e != api.OK {
		t.Errorf("Below(%x, %d) = %d, %x, %d; want %d, %x", seed, n, m, behind, e, want, wantBehind)
	}
}

func checkNoBelow(t *testing.T, seed uint64, n int) {
	t.Helper()
	if m, behind, e := draws.Below(seed, n); m != 0 || behind != 0 || e != api.ErrArg {
		t.Errorf("Below(%x, %d) = %d, %x, %d", seed, n, m, behind, e)
	}
}

func checkShuffle(t *testing.T, seed uint64, n int, want []int, wantBehind uint64) {
	t.Helper()
	if l, behind, e := draws.Shuffle(seed, n); !slices.Equal(l, want) || behind != wantBehind || e != api.OK {
		t.Errorf("Shuffle(%x, %d) = %v, %x, %d; want %v, %x", seed, n, l, behind, e, want, wantBehind)
	}
}

func checkNoShuffle(t *testing.T, seed uint64, n int) {
	t.Helper()
	if l, behind, e := draws.Shuffle(seed, n); len(l) != 0 || behind != 0 || e != api.ErrArg {
		t.Errorf("Shuffle(%x, %d) = %v, %x, %d", seed, n, l, behind, e)
	}
}

func checkPick(t *testing.T, seed uint64, n, k int, want []int, wantBehind uint64) {
	t.Helper()
	if l, behind, e := draws.Pick(seed, n, k); !slices.Equal(l, want) || behind != wantBehind || e != api.OK {
		t.Errorf("Pick(%x, %d, %d) = %v, %x, %d; want %v, %x", seed, n, k, l, behind, e, want, wantBehind)
	}
}

func checkNoPick(t *testing.T, seed uint64, n, k int) {
	t.Helper()
	if l, behind, e := draws.Pick(seed, n, k); len(l) != 0 || behind != 0 || e != api.ErrArg {
		t.Errorf("Pick(%x, %d, %d) = %v, %x, %d", seed, n, k, l, behind, e)
	}
}

// someSeeds are the edges, single bits and all below them, and seeds without a pattern.
func someSeeds() []uint64 {
	l := []uint64{0, 1, 2, 9, 1234567, greatest, greatest - 1, gap, gap - 1, gap + 1, noughts, noughts - 1, noughts + 1}
	for i := range 64 {
		l = append(l, 1<<i, 1<<i-1)
	}
	draw := samples.Drawer(6)
	for range 100 {
		l = append(l, draw()<<62^draw()<<31^draw())
	}
	return l
}

// fewSeeds are for what takes long.
func fewSeeds() []uint64 {
	return []uint64{0, 1, 2, greatest, greatest - 1, 1 << 63, 1<<63 - 1, 1234567, noughts, 0x0123456789abcdef}
}

// above are numbers that are above all limits; in fewer bits some of them would be others.
var above = []int{
	1 << 31, 1<<31 + 1, 1<<32 - 1, 1 << 32, 1<<32 + 1, 1<<32 + 5, 1<<33 + 5, 1 << 62, math.MaxInt - 1, math.MaxInt,
}

// under are numbers below 0.
var under = []int{
	-1, -2, -10, -api.MaxItems, -1<<31 + 1, -1 << 31, -1<<31 - 1, -1<<32 + 5, math.MinInt, math.MinInt + 1, math.MinInt + 5,
}

// P6.1

// What is known of splitmix64, reckoned outside the program.
func TestNextKnown(t *testing.T) {
	for seed, want := range map[uint64][]uint64{
		0:            {0xe220a8397b1dcdaf, 0x6e789e6aa1b965f4, 0x06c45d188009454f},
		1:            {0x910a2dec89025cc1, 0xbeeb8da1658eec67, 0xf893a2eefb32555e},
		2:            {0x975835de1c9756ce, 0xbfc846100bfc1e42, 0x987bbcbfdd7e532f},
		greatest:     {0xe4d971771b652c20, 0xe99ff867dbf682c9, 0x382ff84cb27281e9},
		greatest - 1: {0xf3203e9039f4a821, 0xba56949915dcf9e9, 0xd0d5127a96e8d90d},
		1 << 63:      {0x481ec0a212a9f3db, 0xc46fa638a6309012, 0x61a685ffc80a8140},
		1<<63 - 1:    {0x2a67d7552e039ea7, 0xf20c01408082f947, 0xec159351af424190},
		noughts:      {0, 0xe220a8397b1dcdaf, 0x6e789e6aa1b965f4},
		noughts - 1:  {0xb4d055fcf2cbbd7b, 0xe4d971771b652c20, 0xe99ff867dbf682c9},
		1234567:      {6457827717110365317, 3203168211198807973, 9817491932198370423, 4593380528125082431, 16408922859458223821},
	} {
		for i, n := range want {
			from := seed + uint64(i)*gap
			checkNext(t, from, n, from+gap)
		}
	}
	checkNext(t, 0, 0xe220a8397b1dcdaf, 0x9e3779b97f4a7c15)
	checkNext(t, greatest, 0xe4d971771b652c20, 0x9e3779b97f4a7c14)
}

func TestNextAgreesWithThePlainOne(t *testing.T) {
	for _, seed := range someSeeds() {
		for range 20 {
			want, behind := plainNext(seed)
			checkNext(t, seed, want, behind)
			seed = behind
		}
	}
}

// P6.2

func TestBelowKnown(t *testing.T) {
	checkBelow(t, 0, 10, 5, 0x9e3779b97f4a7c15)
	checkNoBelow(t, 0, 0)
	for seed, rests := range map[uint64][]int{ // below 1, 2, 10, 100, 2048, 2^31 - 1
		0:        {0, 1, 5, 35, 1455, 1063198245},
		1:        {0, 1, 5, 65, 1217, 722909340},
		2:        {0, 0, 0, 10, 1742, 1262994060},
		greatest: {0, 0, 6, 36, 1056, 1696075537},
		1 << 63:  {0, 1, 5, 15, 987, 585594144},
		1234567:  {0, 1, 7, 17, 1157, 776379574},
		noughts:  {0, 0, 0, 0, 0, 0},
	} {
		for i, n := range []int{1, 2, 10, 100, 2048, math.MaxInt32} {
			checkBelow(t, seed, n, rests[i], seed+gap)
		}
	}
}

func TestBelowAgreesWithThePlainOne(t *testing.T) {
	for _, seed := range someSeeds() {
		for _, n := range []int{1, 2, 3, 4, 5, 7, 10, 64, 255, 256, 257, 1000, 2047, 2048, 65536, 65537, 1 << 20, 1 << 30, 1<<30 + 1, 1<<31 - 2, 1<<31 - 1} {
			want, behind := plainBelow(seed, n)
			checkBelow(t, seed, n, want, behind)
		}
	}
}

// Draws below few numbers tell each of them, and none else.
func TestBelowTellsEachNumber(t *testing.T) {
	for n := 1; n <= 20; n++ {
		seen := make([]int, n)
		seed := uint64(n)
		for range 100 * n {
			m, behind, e := draws.Below(seed, n)
			if m < 0 || m >= n || e != api.OK {
				t.Fatalf("Below(%x, %d) = %d, %d", seed, n, m, e)
			}
			seen[m]++
			seed = behind
		}
		if slices.Contains(seen, 0) {
			t.Errorf("below %d: %v", n, seen)
		}
	}
}

func TestBelowRefuses(t *testing.T) {
	for _, seed := range someSeeds() {
		for _, n := range slices.Concat([]int{0}, under, above) {
			checkNoBelow(t, seed, n)
		}
	}
}

// P6.3

func TestShuffleKnown(t *testing.T) {
	checkShuffle(t, 5, 0, nil, 5)
	checkShuffle(t, 5, 1, []int{0}, 5)
	for seed, want := range map[uint64][]int{
		0:            {6, 3, 2, 9, 8, 1, 4, 7, 0, 5},
		1:            {4, 2, 8, 1, 9, 3, 0, 6, 7, 5},
		2:            {9, 8, 3, 2, 4, 6, 1, 7, 5, 0},
		greatest:     {3, 4, 2, 7, 5, 0, 8, 1, 9, 6},
		greatest - 1: {7, 4, 2, 0, 1, 6, 8, 5, 9, 3},
		1 << 63:      {8, 4, 9, 6, 7, 1, 3, 0, 2, 5},
		1<<63 - 1:    {7, 1, 2, 5, 4, 6, 3, 8, 0, 9},
		1234567:      {2, 0, 6, 1, 4, 5, 3, 8, 9, 7},
		noughts:      {1, 9, 3, 5, 6, 8, 2, 4, 7, 0},
	} {
		checkShuffle(t, seed, 10, want, seed+0x8ff34785799e5cbd)
	}
}

func TestShuffleOfTwoOrThree(t *testing.T) {
	checkShuffle(t, 0, 2, []int{0, 1}, 0x9e3779b97f4a7c15)
	checkShuffle(t, 2, 2, []int{1, 0}, 0x9e3779b97f4a7c17)
	checkShuffle(t, greatest, 2, []int{1, 0}, 0x9e3779b97f4a7c14)
	checkShuffle(t, 0, 3, []int{2, 0, 1}, 0x3c6ef372fe94f82a)
	checkShuffle(t, 1, 3, []int{0, 1, 2}, 0x3c6ef372fe94f82b)
	checkShuffle(t, greatest, 3, []int{0, 1, 2}, 0x3c6ef372fe94f829)
	checkShuffle(t, 1<<63-1, 3, []int{2, 1, 0}, 0xbc6ef372fe94f829)
}

// Without a draw the seed behind is the seed: one number is not drawn.
func TestShuffleWithoutADraw(t *testing.T) {
	for _, seed := range someSeeds() {
		checkShuffle(t, seed, 0, nil, seed)
		checkShuffle(t, seed, 1, []int{0}, seed)
	}
}

func TestShuffleAgreesWithThePlainOne(t *testing.T) {
	for _, seed := range someSeeds() {
		for _, n := range []int{0, 1, 2, 3, 4, 5, 17, 64} {
			want, behind := plainShuffle(seed, n)
			checkShuffle(t, seed, n, want, behind)
		}
	}
	for _, seed := range fewSeeds() {
		for _, n := range []int{255, 256, 257, api.MaxItems - 1, api.MaxItems} {
			want, behind := plainShuffle(seed, n)
			checkShuffle(t, seed, n, want, behind)
		}
	}
}

// Of each n that may be, as many draws are done as there are places behind the first one.
func TestSeedBehindAShuffle(t *testing.T) {
	for n := range api.MaxItems + 1 {
		l, behind, e := draws.Shuffle(7, n)
		if len(l) != n || behind != 7+uint64(max(n-1, 0))*gap || e != api.OK {
			t.Errorf("Shuffle(7, %d): %d numbers, %x, %d", n, len(l), behind, e)
		}
	}
}

func TestShuffleRefuses(t *testing.T) {
	for _, seed := range someSeeds() {
		for _, n := range slices.Concat([]int{api.MaxItems + 1, 2 * api.MaxItems, 1 << 16}, under, above) {
			checkNoShuffle(t, seed, n)
		}
	}
}

func TestPickKnown(t *testing.T) {
	checkNoPick(t, 5, 3, 4)
	for k, want := range [][]int{ // of 6 3 2 9 8 1 4 7 0 5
		nil, {6}, {3, 6}, {2, 3, 6}, {2, 3, 6, 9}, {2, 3, 6, 8, 9}, {1, 2, 3, 6, 8, 9}, {1, 2, 3, 4, 6, 8, 9},
		{1, 2, 3, 4, 6, 7, 8, 9}, {0, 1, 2, 3, 4, 6, 7, 8, 9}, {0, 1, 2, 3, 4, 5, 6, 7, 8, 9},
	} {
		checkPick(t, 0, 10, k, want, 0x8ff34785799e5cbd)
	}
	checkPick(t, greatest, 10, 4, []int{2, 3, 4, 7}, 0x8ff34785799e5cbc)
	checkPick(t, 1, api.MaxItems, 5, []int{370, 433, 550, 957, 1001}, 0x1d965240d4962bec)
}

// The seed behind is that of the whole shuffle, however few are picked; without a draw it is the seed.
func TestPickOfNoneAndAll(t *testing.T) {
	for _, seed := range someSeeds() {
		checkPick(t, seed, 0, 0, nil, seed)
		checkPick(t, seed, 1, 0, nil, seed)
		checkPick(t, seed, 1, 1, []int{0}, seed)
		checkPick(t, seed, 2, 0, nil, seed+gap)
		checkPick(t, seed, 2, 2, []int{0, 1}, seed+gap)
		checkPick(t, seed, 10, 0, nil, seed+0x8ff34785799e5cbd)
		checkPick(t, seed, 10, 10, samples.UpTo(10), seed+0x8ff34785799e5cbd)
		checkPick(t, seed, api.MaxItems, api.MaxItems, samples.UpTo(api.MaxItems), seed+0x1d965240d4962beb)
	}
}

func TestPickAgreesWithThePlainOne(t *testing.T) {
	for _, seed := range fewSeeds() {
		for n := range 12 {
			for k := range n + 1 {
				want, behind := plainPick(seed, n, k)
				checkPick(t, seed, n, k, want, behind)
			}
		}
		for _, k := range []int{0, 1, 2, 100, api.MaxItems - 1, api.MaxItems} {
			want, behind := plainPick(seed, api.MaxItems, k)
			checkPick(t, seed, api.MaxItems, k, want, behind)
		}
	}
}

func TestPickRefuses(t *testing.T) {
	for _, seed := range fewSeeds() {
		for _, n := range []int{0, 1, 2, 3, 10, 64, api.MaxItems} {
			for _, k := range slices.Concat([]int{n + 1, n + 2, api.MaxItems + 1}, under, above) {
				checkNoPick(t, seed, n, k)
			}
		}
		for _, n := range slices.Concat([]int{api.MaxItems + 1, 1 << 16}, under, above) {
			for _, k := range []int{0, 1, -1, 10, api.MaxItems, api.MaxItems + 1, n, n - 1, n + 1, math.MaxInt, math.MinInt} {
				checkNoPick(t, seed, n, k)
			}
		}
	}
}

// P6.4

func TestShuffleHasEachNumberOnce(t *testing.T) {
	for n := range api.MaxItems + 1 {
		l, _, e := draws.Shuffle(uint64(n), n)
		slices.Sort(l)
		if !slices.Equal(l, samples.UpTo(n)) || e != api.OK {
			t.Fatalf("Shuffle(%d, %d): %v, %d", n, n, l, e)
		}
	}
	for _, seed := range someSeeds() {
		l, _, _ := draws.Shuffle(seed, api.MaxItems)
		slices.Sort(l)
		if !slices.Equal(l, samples.UpTo(api.MaxItems)) {
			t.Errorf("Shuffle(%x, %d): %v", seed, api.MaxItems, l)
		}
	}
}

// Of few numbers each order is drawn by some seed.
func TestShuffleTellsEachOrder(t *testing.T) {
	l := samples.UpTo(4)
	seen := map[[4]int]int{}
	for seed := range uint64(500) {
		order, _, _ := draws.Shuffle(seed, 4)
		seen[[4]int(order)]++
	}
	samples.Orders(l, func(order []int) {
		if seen[[4]int(order)] == 0 {
			t.Errorf("no seed draws %v", order)
		}
	})
}

// checkPicks picks more and more of so many: each pick has the one ahead of it, and one number more.
func checkPicks(t *testing.T, seed uint64, n int) {
	t.Helper()
	var fewer []int
	for k := range n + 1 {
		more, _, e := draws.Pick(seed, n, k)
		if len(more) != k || e != api.OK {
			t.Fatalf("Pick(%x, %d, %d) = %v, %d", seed, n, k, more, e)
		}
		in := make([]bool, n)
		for i, m := range more {
			if m < 0 || m >= n || i > 0 && m <= more[i-1] {
				t.Fatalf("Pick(%x, %d, %d) = %v", seed, n, k, more)
			}
			in[m] = true
		}
		for _, m := range fewer {
			if !in[m] {
				t.Fatalf("Pick(%x, %d, %d) = %v without %d", seed, n, k, more, m)
			}
		}
		fewer = more
	}
}

func TestFewerAreAmongTheMore(t *testing.T) {
	for _, seed := range someSeeds() {
		for _, n := range []int{0, 1, 2, 3, 10, 33} {
			checkPicks(t, seed, n)
		}
	}
	checkPicks(t, 1, 300)
	checkPicks(t, greatest, 300)
}

// R4, R5

// Whatever is done to an answer, its spare room too, the next one is the same, and another one stays.
func TestAnswersShareNoMemory(t *testing.T) {
	for _, n := range []int{1, 2, 10, api.MaxItems} {
		shuffled, behind := plainShuffle(3, n)
		picked, _ := plainPick(3, n, (n+1)/2)
		otherShuffle, _, _ := draws.Shuffle(3, n)
		otherPick, _, _ := draws.Pick(3, n, (n+1)/2)
		for _, bad := range []int{-1, 0, n, math.MaxInt} {
			one, _, _ := draws.Shuffle(3, n)
			two, _, _ := draws.Pick(3, n, (n+1)/2)
			three, _, _ := draws.Pick(3, n, 0)
			for _, l := range [][]int{one, two, three} {
				l = l[:cap(l)]
				for i := range l {
					l[i] = bad
				}
			}
			checkShuffle(t, 3, n, shuffled, behind)
			checkPick(t, 3, n, (n+1)/2, picked, behind)
			checkPick(t, 3, n, n, samples.UpTo(n), behind)
		}
		if !slices.Equal(otherShuffle, shuffled) || !slices.Equal(otherPick, picked) {
			t.Errorf("other answers are %v, %v", otherShuffle, otherPick)
		}
	}
}

// An answer hangs on its seed alone, not on the calls ahead of it.
func TestCallsAheadChangeNothing(t *testing.T) {
	for range 3 {
		for _, seed := range fewSeeds() {
			checkNext(t, 0, 0xe220a8397b1dcdaf, gap)
			checkBelow(t, 0, 10, 5, gap)
			checkShuffle(t, 0, 3, []int{2, 0, 1}, 0x3c6ef372fe94f82a)
			checkPick(t, 0, 3, 2, []int{0, 2}, 0x3c6ef372fe94f82a)
			draws.Next(seed)
			draws.Below(seed, 7)
			draws.Shuffle(seed, 100)
			draws.Pick(seed, 100, 50)
			checkNoBelow(t, seed, 0)
			checkNoShuffle(t, seed, -1)
			checkNoPick(t, seed, 1, 2)
		}
	}
}

// A draw from the seed behind some draws goes on where they ended.
func TestDrawsGoOn(t *testing.T) {
	for _, seed := range fewSeeds() {
		_, behind, _ := draws.Shuffle(seed, 4)
		_, behind, _ = draws.Pick(behind, 3, 1)
		_, behind, _ = draws.Below(behind, 6)
		for range 3 + 2 + 1 {
			_, seed = plainNext(seed)
		}
		want, wantBehind := plainNext(seed)
		checkNext(t, behind, want, wantBehind)
	}
}

func checkSeed(t *testing.T, seed uint64, n, k int) {
	t.Helper()
	want, behind := plainNext(seed)
	checkNext(t, seed, want, behind)
	if n >= 1 && n <= math.MaxInt32 {
		drawn, drawnBehind := plainBelow(seed, n)
		checkBelow(t, seed, n, drawn, drawnBehind)
	} else {
		checkNoBelow(t, seed, n)
	}
	if n < 0 || n > api.MaxItems {
		checkNoShuffle(t, seed, n)
		checkNoPick(t, seed, n, k)
		return
	}
	l, last := plainShuffle(seed, n)
	checkShuffle(t, seed, n, l, last)
	if k < 0 || k > n {
		checkNoPick(t, seed, n, k)
		return
	}
	picked, _ := plainPick(seed, n, k)
	checkPick(t, seed, n, k, picked, last)
}

func FuzzDraws(f *testing.F) {
	f.Add(uint64(0), 10, 3)
	f.Add(uint64(1), 1, 2)
	f.Add(greatest, api.MaxItems, 1)
	f.Add(uint64(5), 1<<31, 0)
	f.Add(uint64(5), -1, -1)
	f.Fuzz(func(t *testing.T, seed uint64, n, k int) {
		checkSeed(t, seed, n, k)
		checkSeed(t, seed, n&4095, k&4095)
		checkSeed(t, seed, n&63, k&63)
	})
}

func BenchmarkShuffle(b *testing.B) {
	for b.Loop() {
		draws.Shuffle(1, api.MaxItems)
	}
}
