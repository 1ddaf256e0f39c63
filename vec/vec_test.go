package vec_test

import (
	"math"
	"math/big"
	"slices"
	"testing"

	"lodestone/api"
	"lodestone/samples"
	"lodestone/vec"
)

// plainDist is the document's words, place by place.
func plainDist(a, b []int8) int64 {
	sum := int64(0)
	for i := range a {
		sum += (int64(a[i]) - int64(b[i])) * (int64(a[i]) - int64(b[i]))
	}
	return sum
}

// plainMean tries each number there is, the ones farther from 0 first, and holds the fractions against each other as whole numbers.
func plainMean(l [][]int8) []int8 {
	var mean []int8
	for place := range l[0] {
		sum := 0
		for _, v := range l {
			sum += int(v[place])
		}
		best, least := 0, math.MaxInt
		for far := 128; far >= 0; far-- {
			for _, n := range []int{far, -far} {
				off := max(n*len(l)-sum, sum-n*len(l))
				if n <= 127 && off < least {
					best, least = n, off
				}
			}
		}
		mean = append(mean, int8(best))
	}
	return mean
}

func checkDist(t *testing.T, a, b []int8, want int64) {
	t.Helper()
	if n, e := vec.Dist(a, b); n != want || e != api.OK {
		t.Errorf("Dist(%v, %v) = %d, %d; want %d", a, b, n, e, want)
	}
}

func checkNoDist(t *testing.T, a, b []int8) {
	t.Helper()
	if n, e := vec.Dist(a, b); n != 0 || e != api.ErrArg {
		t.Errorf("Dist(%d numbers, %d numbers) = %d, %d", len(a), len(b), n, e)
	}
}

func checkMean(t *testing.T, l [][]int8, want []int8) {
	t.Helper()
	if m, e := vec.Mean(l); !slices.Equal(m, want) || e != api.OK {
		t.Errorf("Mean(%v) = %v, %d; want %v", l, m, e, want)
	}
}

func checkMiddle(t *testing.T, l [][]int8, want int) {
	t.Helper()
	if k, e := vec.Middle(l); k != want || e != api.OK {
		t.Errorf("Middle(%v) = %d, %d; want %d", l, k, e, want)
	}
}

func mustMean(t *testing.T, l [][]int8) []int8 {
	t.Helper()
	m, e := vec.Mean(l)
	if e != api.OK {
		t.Fatalf("Mean(%d vectors): %d", len(l), e)
	}
	return m
}

func mustDist(t *testing.T, a, b []int8) int64 {
	t.Helper()
	n, e := vec.Dist(a, b)
	if e != api.OK {
		t.Fatalf("Dist(%v, %v): %d", a, b, e)
	}
	return n
}

// P3.1

func TestDistKnown(t *testing.T) {
	checkDist(t, []int8{1, 2}, []int8{4, -2}, 25)
	checkDist(t, []int8{-128}, []int8{127}, 65025)
	checkDist(t, []int8{127}, []int8{-128}, 65025)
	checkDist(t, []int8{-128}, []int8{-128}, 0)
	checkDist(t, []int8{-128, 127}, []int8{0, 0}, 128*128+127*127)
	checkDist(t, []int8{0}, []int8{1}, 1)
	checkDist(t, []int8{3, 0, 0}, []int8{0, 4, 12}, 169)
	checkDist(t, []int8{1, 2, 3}, []int8{3, 2, 1}, 8)
}

// All numbers of one place, against all.
func TestDistOfEachTwoNumbers(t *testing.T) {
	for x := -128; x <= 127; x++ {
		for y := -128; y <= 127; y++ {
			checkDist(t, []int8{int8(x)}, []int8{int8(y)}, int64((x-y)*(x-y)))
		}
	}
}

func TestDistOfEachLength(t *testing.T) {
	for size := 1; size <= api.MaxDim; size++ {
		checkDist(t, samples.Filled(size, -128), samples.Filled(size, 127), 65025*int64(size))
		for seed := range uint64(20) {
			a, b := samples.Noise(seed, size), samples.Noise(seed+77, size)
			checkDist(t, a, b, plainDist(a, b))
		}
	}
}

// Each place counts, the first and the last too.
func TestDistCountsEachPlace(t *testing.T) {
	for place := range api.MaxDim {
		a := make([]int8, api.MaxDim)
		a[place] = -11
		checkDist(t, a, make([]int8, api.MaxDim), 121)
	}
}

func TestDistRefusesLengths(t *testing.T) {
	checkNoDist(t, nil, nil)
	checkNoDist(t, []int8{}, nil)
	checkNoDist(t, nil, []int8{1})
	checkNoDist(t, []int8{1}, []int8{})
	for _, size := range []int{api.MaxDim + 1, api.MaxDim + 2, 256, 257, 65537} {
		checkNoDist(t, samples.Filled(size, 1), samples.Filled(size, 1))
	}
}

func TestDistRefusesUnlikeLengths(t *testing.T) {
	for size := range api.MaxDim + 3 {
		for other := range api.MaxDim + 3 {
			if size != other {
				checkNoDist(t, samples.Filled(size, 1), samples.Filled(other, 1))
			}
		}
	}
}

// What stands in a list's spare room does not count.
func TestDistCountsNoSpareRoom(t *testing.T) {
	a, b := samples.Noise(1, 100), samples.Noise(2, 100)
	checkDist(t, a[:3], b[:3], plainDist(a[:3], b[:3]))
	checkDist(t, a[:api.MaxDim], b[:api.MaxDim], plainDist(a[:api.MaxDim], b[:api.MaxDim]))
	checkNoDist(t, a[:0], b[:0])
	checkNoDist(t, a[:2], b[:3])
}

// P3.2

func hit(id uint64, dist int64) api.Hit { return api.Hit{ID: id, Dist: dist} }

func TestLessKnown(t *testing.T) {
	for _, k := range []struct {
		a, b api.Hit
		want bool
	}{
		{hit(5, 3), hit(4, 4), true},
		{hit(4, 4), hit(5, 3), false},
		{hit(5, 3), hit(6, 3), true},
		{hit(6, 3), hit(5, 3), false},
		{hit(5, 3), hit(5, 3), false},
		{hit(5, 3), hit(5, 4), true},
		{hit(0, 0), hit(0, 0), false},
		{hit(9, -1), hit(0, 0), true},
		{hit(0, 0), hit(9, -1), false},
		{hit(1, math.MinInt64), hit(1, math.MaxInt64), true},
		{hit(1, math.MaxInt64), hit(1, math.MinInt64), false},
		{hit(0, 7), hit(math.MaxUint64, 7), true},
		{hit(math.MaxUint64, 7), hit(0, 7), false},
		{hit(1<<63-1, 7), hit(1<<63, 7), true},
		{hit(1<<63, 7), hit(1<<63-1, 7), false},
	} {
		if less := vec.Less(k.a, k.b); less != k.want {
			t.Errorf("Less(%v, %v) = %t", k.a, k.b, less)
		}
	}
}

// edgeHits has each edge of an ID with each of a distance.
func edgeHits() []api.Hit {
	var l []api.Hit
	for _, id := range []uint64{0, 1, 2, api.MaxNumber, api.MaxNumber + 1, 1 << 63, math.MaxUint64} {
		for _, dist := range []int64{math.MinInt64, -2, -1, 0, 1, 2, 65025, math.MaxInt64} {
			l = append(l, hit(id, dist))
		}
	}
	return l
}

// Of two hits just one is Less, unless they are the same.
func TestLessTellsAnyTwoApart(t *testing.T) {
	for _, a := range edgeHits() {
		for _, b := range edgeHits() {
			if one := vec.Less(a, b) != vec.Less(b, a); one != (a != b) {
				t.Errorf("Less(%v, %v) = %t, the other way round %t", a, b, vec.Less(a, b), vec.Less(b, a))
			}
		}
	}
}

func TestLessIsAnOrder(t *testing.T) {
	l := edgeHits()
	for _, a := range l {
		for _, b := range l {
			for _, c := range l {
				if vec.Less(a, b) && vec.Less(b, c) && !vec.Less(a, c) {
					t.Fatalf("%v, %v, %v", a, b, c)
				}
			}
		}
	}
}

func TestSortKnown(t *testing.T) {
	for _, k := range []struct{ l, want []api.Hit }{
		{[]api.Hit{hit(1, 9), hit(3, 2), hit(2, 2)}, []api.Hit{hit(2, 2), hit(3, 2), hit(1, 9)}},
		{nil, nil},
		{[]api.Hit{}, nil},
		{[]api.Hit{hit(4, 4)}, []api.Hit{hit(4, 4)}},
		{[]api.Hit{hit(2, 1), hit(1, 2)}, []api.Hit{hit(2, 1), hit(1, 2)}},
		{[]api.Hit{hit(1, 5), hit(1, 5), hit(0, 5), hit(1, 5)}, []api.Hit{hit(0, 5), hit(1, 5), hit(1, 5), hit(1, 5)}},
		{[]api.Hit{hit(1, math.MaxInt64), hit(2, math.MinInt64), hit(3, 0)}, []api.Hit{hit(2, math.MinInt64), hit(3, 0), hit(1, math.MaxInt64)}},
		{[]api.Hit{hit(math.MaxUint64, 0), hit(0, 0), hit(1<<63, 0)}, []api.Hit{hit(0, 0), hit(1<<63, 0), hit(math.MaxUint64, 0)}},
	} {
		if l := vec.Sort(k.l); !slices.Equal(l, k.want) {
			t.Errorf("Sort(%v) = %v", k.l, l)
		}
	}
}

// checkSort: none is Less than one ahead of it, and each hit is there as often as it came.
func checkSort(t *testing.T, l []api.Hit) {
	t.Helper()
	sorted := vec.Sort(l)
	for i := 1; i < len(sorted); i++ {
		if vec.Less(sorted[i], sorted[i-1]) {
			t.Errorf("%v stands behind %v", sorted[i], sorted[i-1])
		}
	}
	count := map[api.Hit]int{}
	for _, x := range l {
		count[x]++
	}
	for _, x := range sorted {
		count[x]--
	}
	for x, n := range count {
		if n != 0 {
			t.Errorf("%v: %d too few", x, n)
		}
	}
}

func TestSortOfManyLengths(t *testing.T) {
	for _, size := range []int{2, 3, 7, 12, 13, 20, 21, 50, 256, 257, 2048, 20000} {
		for _, kinds := range []uint64{1, 2, 10, 1 << 40} {
			draw := samples.Drawer(uint64(size))
			l := make([]api.Hit, size)
			for i := range l {
				l[i] = hit(draw()%kinds, int64(draw()%kinds)-int64(kinds/2))
			}
			checkSort(t, l)
			sorted := vec.Sort(l)
			checkSort(t, sorted)
			slices.Reverse(sorted)
			checkSort(t, sorted)
		}
	}
	checkSort(t, edgeHits())
}

// P3.3

// wrongLists is what has no mean.
func wrongLists() [][][]int8 {
	fine := []int8{1, 2}
	late := samples.FilledCrowd(api.MaxItems, 2, 1)
	late[api.MaxItems-1] = []int8{1}
	return [][][]int8{
		nil,
		{},
		{nil},
		{{}},
		{{}, {}},
		{{1}, {1, 2}},
		{{1, 2}, {1}},
		{{1}, nil},
		{nil, {1}},
		{fine, fine, {1, 2, 3}},
		{fine, fine, {1}, fine},
		{samples.Filled(api.MaxDim+1, 1)},
		{samples.Filled(api.MaxDim, 1), samples.Filled(api.MaxDim+1, 1)},
		{samples.Filled(api.MaxDim+1, 1), samples.Filled(api.MaxDim, 1)},
		samples.FilledCrowd(3, api.MaxDim+1, 1),
		samples.FilledCrowd(3, 1000, 1),
		samples.FilledCrowd(api.MaxItems+1, 1, 1),
		samples.FilledCrowd(api.MaxItems+1, api.MaxDim, 1),
		samples.FilledCrowd(3*api.MaxItems, 1, 1),
		make([][]int8, api.MaxItems),
		make([][]int8, api.MaxItems+1),
		late,
	}
}

func TestMeanAndMiddleRefuse(t *testing.T) {
	for i, l := range wrongLists() {
		if m, e := vec.Mean(l); len(m) != 0 || e != api.ErrArg {
			t.Errorf("%d: Mean = %v, %d", i, m, e)
		}
		if k, e := vec.Middle(l); k != 0 || e != api.ErrArg {
			t.Errorf("%d: Middle = %d, %d", i, k, e)
		}
	}
}

func TestMeanKnown(t *testing.T) {
	checkMean(t, [][]int8{{1, -1}, {2, -2}}, []int8{2, -2})
	checkMean(t, samples.Line(0, 1, 0), []int8{0})
	checkMean(t, [][]int8{{7, -8, 0}}, []int8{7, -8, 0})
	checkMean(t, [][]int8{{10, 0}, {20, 1}, {30, -1}}, []int8{20, 0})
}

// Halfway between two whole numbers the one farther from 0 is taken, above and below 0.
func TestMeanGoesAwayFromZeroAtHalves(t *testing.T) {
	checkMean(t, samples.Line(0, 1), []int8{1})
	checkMean(t, samples.Line(-1, 0), []int8{-1})
	checkMean(t, samples.Line(1, 2), []int8{2})
	checkMean(t, samples.Line(-1, -2), []int8{-2})
	checkMean(t, samples.Line(126, 127), []int8{127})
	checkMean(t, samples.Line(-127, -128), []int8{-128})
	checkMean(t, samples.Line(-128, 127), []int8{-1})
	checkMean(t, samples.Line(0, 0, 0, 2), []int8{1})
	checkMean(t, samples.Line(0, 0, 0, -2), []int8{-1})
	checkMean(t, samples.Line(1, 0, 0, 0, 0, 2), []int8{1})
	checkMean(t, samples.Line(3, 4, 3, 4), []int8{4})
	checkMean(t, samples.Line(-3, -4, -3, -4), []int8{-4})
}

// Beside a half the nearest is taken, whichever side of 0.
func TestMeanBesideHalves(t *testing.T) {
	checkMean(t, samples.Line(0, 0, 1), []int8{0})
	checkMean(t, samples.Line(0, 1, 1), []int8{1})
	checkMean(t, samples.Line(0, 0, -1), []int8{0})
	checkMean(t, samples.Line(0, -1, -1), []int8{-1})
	checkMean(t, samples.Line(1, 2, 1), []int8{1})
	checkMean(t, samples.Line(-1, -2, -1), []int8{-1})
	checkMean(t, samples.Line(0, 0, 0, 1), []int8{0})
	checkMean(t, samples.Line(0, 0, 0, -1), []int8{0})
	checkMean(t, samples.Line(0, 0, 0, 3), []int8{1})
	checkMean(t, samples.Line(0, 0, 0, -3), []int8{-1})
	checkMean(t, samples.Line(0, 0, 0, 0, 2), []int8{0})
	checkMean(t, samples.Line(0, 0, 0, 0, 3), []int8{1})
	checkMean(t, samples.Line(0, 0, 0, 0, -2), []int8{0})
	checkMean(t, samples.Line(0, 0, 0, 0, -3), []int8{-1})
}

func TestMeanOfEachTwoNumbers(t *testing.T) {
	for x := -128; x <= 127; x++ {
		for y := -128; y <= 127; y++ {
			l := samples.Line(int8(x), int8(y))
			if m, want := mustMean(t, l), plainMean(l); !slices.Equal(m, want) {
				t.Fatalf("Mean(%v) = %v; want %v", l, m, want)
			}
		}
	}
}

func TestMeanUpToMaxItems(t *testing.T) {
	for _, n := range []int8{-128, -1, 0, 1, 127} {
		checkMean(t, samples.FilledCrowd(api.MaxItems, api.MaxDim, n), samples.Filled(api.MaxDim, n))
	}
	half := append(samples.FilledCrowd(api.MaxItems/2, 1, 0), samples.FilledCrowd(api.MaxItems/2, 1, 1)...)
	checkMean(t, half, []int8{1})
	half[api.MaxItems-1] = []int8{0}
	checkMean(t, half, []int8{0})
	half = append(samples.FilledCrowd(api.MaxItems/2, 1, -128), samples.FilledCrowd(api.MaxItems/2, 1, -127)...)
	checkMean(t, half, []int8{-128})
	half[0] = []int8{-127}
	checkMean(t, half, []int8{-127})
}

func TestMeanOfManyVectors(t *testing.T) {
	for _, count := range []int{1, 2, 3, 4, 5, 7, 64, 100, 2047, api.MaxItems} {
		for _, size := range []int{1, 2, 9, api.MaxDim} {
			l := samples.Crowd(uint64(count), count, size)
			checkMean(t, l, plainMean(l))
		}
	}
}

// A vector that is there several times counts as often.
func TestMeanCountsTheSameVectorAgain(t *testing.T) {
	v := []int8{10, -10}
	checkMean(t, [][]int8{v, v, v, {0, 0}}, []int8{8, -8})
}

func TestMeanCountsNoSpareRoom(t *testing.T) {
	room := samples.Noise(3, 100)
	checkMean(t, [][]int8{room[:2], room[:2]}, room[:2])
	many := samples.FilledCrowd(api.MaxItems+5, 1, 4)
	checkMean(t, many[:api.MaxItems], []int8{4})
}

func TestMiddleKnown(t *testing.T) {
	checkMiddle(t, samples.Line(0, 9, 4, 5), 3)
	checkMiddle(t, samples.Line(7), 0)
	checkMiddle(t, samples.Line(0, 10, 5), 2)
	checkMiddle(t, samples.Line(5, 0, 10), 0)
	checkMiddle(t, samples.Line(127, -128, -1), 2)
	checkMiddle(t, [][]int8{{0, 0}, {10, 10}, {4, 6}, {5, 5}}, 3)
}

// Of several that are as near the first one is taken.
func TestMiddleTakesTheFirst(t *testing.T) {
	checkMiddle(t, samples.Line(3, 3, 3), 0)
	checkMiddle(t, samples.Line(4, 6), 0)
	checkMiddle(t, samples.Line(4, 6, 4, 6, 5, 5), 4)
	checkMiddle(t, samples.Line(0, 2), 0)
	checkMiddle(t, samples.Line(2, 0), 0)
	checkMiddle(t, samples.Line(-2, 2, -9, 9, 2, -2), 0)
	checkMiddle(t, [][]int8{{9, 9}, {0, 1}, {1, 0}, {-9, -9}, {0, -1}, {-1, 0}}, 1)
	checkMiddle(t, samples.FilledCrowd(api.MaxItems, api.MaxDim, -128), 0)
}

// The Mean is the whole number, not the fraction: of 0, 0, 3, 3 it is 2, and 3 is nearer to it than 0.
func TestMiddleGoesByTheWholeMean(t *testing.T) {
	checkMiddle(t, samples.Line(0, 0, 3, 3), 2)
	checkMiddle(t, samples.Line(0, 0, -3, -3), 2)
	checkMiddle(t, samples.Line(4, 5), 1)
	checkMiddle(t, samples.Line(-4, -5), 1)
}

func TestMiddleOfManyVectors(t *testing.T) {
	for _, count := range []int{1, 2, 3, 10, 500, api.MaxItems} {
		for _, size := range []int{1, 2, 9, api.MaxDim} {
			l := samples.Crowd(uint64(7*count), count, size)
			mean := plainMean(l)
			want := 0
			for i, v := range l {
				if plainDist(v, mean) < plainDist(l[want], mean) {
					want = i
				}
			}
			checkMiddle(t, l, want)
		}
	}
}

func TestMiddleAmongMaxItems(t *testing.T) {
	l := append(samples.FilledCrowd(api.MaxItems-1, 2, 100), []int8{99, 99})
	l[0] = []int8{-128, -128}
	// The one vector far away makes the fraction a little less than 100: 100 is the nearest still.
	checkMiddle(t, l, 1)
	for i := range l[:len(l)-1] {
		l[i] = samples.Filled(2, int8(50-100*(i%2)))
	}
	l[len(l)-1] = []int8{0, 0}
	checkMiddle(t, l, api.MaxItems-1)
}

// P3.4

func TestDistIsTheSameFromBothSides(t *testing.T) {
	for size := range api.MaxDim + 2 {
		for seed := range uint64(20) {
			a, b := samples.Noise(seed, size), samples.Noise(seed+1, size)
			n, e := vec.Dist(a, b)
			if m, f := vec.Dist(b, a); m != n || f != e {
				t.Errorf("Dist(%v, %v) = %d, %d; the other way round %d, %d", a, b, n, e, m, f)
			}
		}
	}
}

func TestDistIsZeroOfAVectorAndItself(t *testing.T) {
	for size := 1; size <= api.MaxDim; size++ {
		a := samples.Noise(uint64(size), size)
		checkDist(t, a, a, 0)
		checkDist(t, a, slices.Clone(a), 0)
		for place := range a {
			for _, change := range []int8{1, -1, 2, 16, -128, 127} {
				b := slices.Clone(a)
				b[place] += change
				if n := mustDist(t, a, b); n <= 0 {
					t.Errorf("Dist(%v, %v) = %d", a, b, n)
				}
			}
		}
	}
}

func together(t *testing.T, v []int8, l [][]int8) int64 {
	t.Helper()
	sum := int64(0)
	for _, x := range l {
		sum += mustDist(t, v, x)
	}
	return sum
}

// Each number that a vector of one may have, against the Mean.
func TestNoNumberIsNearerToAllThanTheMean(t *testing.T) {
	for count := 1; count <= 12; count++ {
		for seed := range uint64(10) {
			l := samples.Crowd(seed, count, 1)
			least := together(t, mustMean(t, l), l)
			for n := -128; n <= 127; n++ {
				if sum := together(t, []int8{int8(n)}, l); sum < least {
					t.Fatalf("%v: %d is nearer than the mean: %d, %d", l, n, sum, least)
				}
			}
		}
	}
}

func TestNoVectorIsNearerToAllThanTheMean(t *testing.T) {
	for _, size := range []int{2, 5, api.MaxDim} {
		for _, count := range []int{1, 2, 3, 30} {
			l := samples.Crowd(uint64(size*count), count, size)
			mean := mustMean(t, l)
			least := together(t, mean, l)
			for place := range mean {
				for _, change := range []int8{1, -1, 2, -2} {
					other := slices.Clone(mean)
					other[place] += change
					if sum := together(t, other, l); sum < least {
						t.Errorf("%v is nearer than the mean %v", other, mean)
					}
				}
			}
			for seed := range uint64(50) {
				if other := samples.Noise(seed, size); together(t, other, l) < least {
					t.Errorf("%v is nearer than the mean %v", other, mean)
				}
			}
		}
	}
}

// FuzzVec cuts bytes into vectors, and holds all calls against reckonings of other kinds.
func FuzzVec(f *testing.F) {
	f.Add([]byte{0, 9, 4, 5}, 1)
	f.Add([]byte{1, 255, 2, 254}, 2)
	f.Fuzz(func(t *testing.T, b []byte, size int) {
		if size < 1 || size > api.MaxDim || len(b) < size || len(b) > size*api.MaxItems {
			return
		}
		l := samples.Cut(b, size)
		checkMean(t, l, plainMean(l))
		mean := mustMean(t, l)
		var hits []api.Hit
		for i, v := range l {
			checkDist(t, mean, v, plainDist(mean, v))
			hits = append(hits, hit(uint64(i), plainDist(mean, v)))
		}
		checkSort(t, hits)
		checkMiddle(t, l, int(vec.Sort(hits)[0].ID))
	})
}

// No mean is more than a half off, and at a half it is the one farther from 0.
func TestMeanAgreesWithFractions(t *testing.T) {
	half := big.NewRat(1, 2)
	for count := 1; count <= 64; count++ {
		l := samples.Crowd(uint64(count)*31, count, 3)
		mean := mustMean(t, l)
		for place, n := range mean {
			sum := int64(0)
			for _, v := range l {
				sum += int64(v[place])
			}
			off := new(big.Rat).Sub(big.NewRat(sum, int64(count)), big.NewRat(int64(n), 1))
			far := new(big.Rat).Abs(off)
			if far.Cmp(half) > 0 || far.Cmp(half) == 0 && (sum > 0) != (off.Sign() < 0) {
				t.Errorf("%d / %d: %d", sum, count, n)
			}
		}
	}
}

// R4, R5

func TestArgumentsStayAsTheyAre(t *testing.T) {
	room := samples.Crowd(1, 6, 8)
	before := samples.Crowd(1, 6, 8)
	list := [][]int8{room[0][:3], room[1][:3], room[2][:3], room[3], room[4]}
	vec.Dist(list[0], list[1])
	vec.Mean(list[:3])
	vec.Middle(list[:3])
	for i := range room {
		if !slices.Equal(room[i], before[i]) {
			t.Errorf("vector %d is %v; was %v", i, room[i], before[i])
		}
	}
	if len(list[3]) != 8 || &list[3][0] != &room[3][0] || &list[4][0] != &room[4][0] || &list[0][0] != &room[0][0] {
		t.Error("the list of vectors is changed")
	}
	hits := []api.Hit{hit(1, 9), hit(3, 2), hit(2, 2), hit(0, 0), hit(8, 8)}
	kept := slices.Clone(hits)
	vec.Sort(hits[:3])
	if !slices.Equal(hits, kept) {
		t.Errorf("hits are %v; were %v", hits, kept)
	}
}

func TestAnswersShareNoMemory(t *testing.T) {
	v := []int8{1, 2}
	l := [][]int8{v}
	a, b := mustMean(t, l), mustMean(t, l)
	clear(a[:cap(a)])
	if !slices.Equal(v, []int8{1, 2}) || !slices.Equal(b, []int8{1, 2}) {
		t.Errorf("Mean: %v, %v", v, b)
	}
	clear(v)
	if !slices.Equal(b, []int8{1, 2}) {
		t.Errorf("Mean: %v", b)
	}
	for _, size := range []int{0, 1, 3} {
		room := []api.Hit{hit(1, 1), hit(2, 2), hit(3, 3), hit(4, 4)}
		hits := room[:size]
		x, y := vec.Sort(hits), vec.Sort(hits)
		clear(x[:cap(x)])
		clear(room[:size])
		if len(y) != size || size > 0 && y[0] != hit(1, 1) || room[3] != hit(4, 4) || size < 3 && room[2] != hit(3, 3) {
			t.Errorf("Sort of %d: %v, %v", size, y, room)
		}
	}
}

func TestCallsLeaveNothingBehind(t *testing.T) {
	for range 3 {
		vec.Mean(samples.Crowd(5, 100, 9))
		vec.Mean(samples.Line(1, 2, 3)[:0])
		checkMean(t, samples.Line(0, 1, 0), []int8{0})
		vec.Middle(samples.Crowd(6, 100, 9))
		vec.Dist(nil, nil)
		checkMiddle(t, samples.Line(0, 9, 4, 5), 3)
		checkDist(t, []int8{1, 2}, []int8{4, -2}, 25)
	}
}

func BenchmarkDist(b *testing.B) {
	x, y := samples.Noise(1, api.MaxDim), samples.Noise(2, api.MaxDim)
	for b.Loop() {
		vec.Dist(x, y)
	}
}
