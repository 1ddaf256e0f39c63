package means_test

import (
	"math"
	"slices"
	"testing"

	"lodestone/api"
	"lodestone/draws"
	"lodestone/means"
	"lodestone/samples"
)

// plainDist is the document's words, place by place.
func plainDist(a, b []int8) int64 {
	sum := int64(0)
	for i := range a {
		sum += (int64(a[i]) - int64(b[i])) * (int64(a[i]) - int64(b[i]))
	}
	return sum
}

// plainNearest looks for the least distance first, and then for the first mean that has it.
func plainNearest(m [][]int8, v []int8) (int, int64) {
	var far []int64
	for _, mean := range m {
		far = append(far, plainDist(mean, v))
	}
	least := slices.Min(far)
	return slices.Index(far, least), least
}

func plainCost(m, l [][]int8) int64 {
	sum := int64(0)
	for _, v := range l {
		_, far := plainNearest(m, v)
		sum += far
	}
	return sum
}

// plainMean reckons in fractions; math.Round goes away from 0 at halves.
func plainMean(l [][]int8) []int8 {
	var mean []int8
	for place := range l[0] {
		sum := 0.0
		for _, v := range l {
			sum += float64(v[place])
		}
		mean = append(mean, int8(math.Round(sum/float64(len(l)))))
	}
	return mean
}

func plainStep(m, l [][]int8) [][]int8 {
	groups := make([][][]int8, len(m))
	for _, v := range l {
		place, _ := plainNearest(m, v)
		groups[place] = append(groups[place], v)
	}
	stepped := samples.Copies(m)
	for place, group := range groups {
		if group != nil {
			stepped[place] = plainMean(group)
		}
	}
	return stepped
}

// plainTrain does each step, whether it changes a mean or not.
func plainTrain(l [][]int8, k, rounds int, seed uint64) [][]int8 {
	places, _, _ := draws.Pick(seed, len(l), k)
	m := at(l, places...)
	for range rounds {
		m = plainStep(m, l)
	}
	return m
}

func at(l [][]int8, places ...int) [][]int8 {
	var picked [][]int8
	for _, place := range places {
		picked = append(picked, slices.Clone(l[place]))
	}
	return picked
}

// pairs makes vectors of two numbers each.
func pairs(list ...int8) [][]int8 {
	var l [][]int8
	for pair := range slices.Chunk(list, 2) {
		l = append(l, slices.Clone(pair))
	}
	return l
}

func checkNearest(t *testing.T, m [][]int8, v []int8, want int) {
	t.Helper()
	if n, e := means.Nearest(m, v); n != want || e != api.OK {
		t.Errorf("Nearest(%v, %v) = %d, %d; want %d", m, v, n, e, want)
	}
}

func checkNoNearest(t *testing.T, m [][]int8, v []int8) {
	t.Helper()
	if n, e := means.Nearest(m, v); n != 0 || e != api.ErrArg {
		t.Errorf("Nearest(%d means, %d numbers) = %d, %d", len(m), len(v), n, e)
	}
}

func checkCost(t *testing.T, m, l [][]int8, want int64) {
	t.Helper()
	if n, e := means.Cost(m, l); n != want || e != api.OK {
		t.Errorf("Cost(%v, %v) = %d, %d; want %d", m, l, n, e, want)
	}
}

func checkStep(t *testing.T, m, l, want [][]int8) {
	t.Helper()
	if s, e := means.Step(m, l); !samples.Same(s, want) || e != api.OK {
		t.Errorf("Step(%v, %v) = %v, %d; want %v", m, l, s, e, want)
	}
}

// checkRefused: neither a step nor a cost is told.
func checkRefused(t *testing.T, m, l [][]int8) {
	t.Helper()
	if s, e := means.Step(m, l); len(s) != 0 || e != api.ErrArg {
		t.Errorf("Step(%d means, %d vectors) = %v, %d", len(m), len(l), s, e)
	}
	if n, e := means.Cost(m, l); n != 0 || e != api.ErrArg {
		t.Errorf("Cost(%d means, %d vectors) = %d, %d", len(m), len(l), n, e)
	}
}

func checkTrain(t *testing.T, l [][]int8, k, rounds int, seed uint64, want [][]int8) {
	t.Helper()
	if m, e := means.Train(l, k, rounds, seed); !samples.Same(m, want) || e != api.OK {
		t.Errorf("Train(%v, %d, %d, %x) = %v, %d; want %v", l, k, rounds, seed, m, e, want)
	}
}

func checkNoTrain(t *testing.T, l [][]int8, k, rounds int, seed uint64) {
	t.Helper()
	if m, e := means.Train(l, k, rounds, seed); len(m) != 0 || e != api.ErrArg {
		t.Errorf("Train(%d vectors, %d, %d, %x) = %v, %d", len(l), k, rounds, seed, m, e)
	}
}

// checkAll holds what is told of the means and the vectors against the plain reckonings.
func checkAll(t *testing.T, m, l [][]int8) {
	t.Helper()
	for _, v := range l {
		want, _ := plainNearest(m, v)
		checkNearest(t, m, v, want)
	}
	checkCost(t, m, l, plainCost(m, l))
	checkStep(t, m, l, plainStep(m, l))
}

// wrongMeans may not be.
func wrongMeans() [][][]int8 {
	late := samples.FilledCrowd(api.MaxMeans, 2, 1)
	late[api.MaxMeans-1] = []int8{1}
	return [][][]int8{
		nil,
		{},
		{nil},
		{{}},
		{{}, {}},
		{{1}, {1, 2}},
		{{1, 2}, {1}},
		{{1}, nil},
		{nil, {1}},
		{{1, 2}, {1, 2}, {1, 2, 3}},
		{{1, 2}, {1}, {1, 2}},
		{samples.Filled(api.MaxDim+1, 1)},
		{samples.Filled(api.MaxDim, 1), samples.Filled(api.MaxDim+1, 1)},
		{samples.Filled(api.MaxDim+1, 1), samples.Filled(api.MaxDim, 1)},
		samples.FilledCrowd(3, api.MaxDim+1, 1),
		samples.FilledCrowd(3, 1000, 1),
		samples.FilledCrowd(api.MaxMeans+1, 1, 1),
		samples.FilledCrowd(api.MaxMeans+1, 2, 1),
		samples.FilledCrowd(api.MaxMeans+1, api.MaxDim, 1),
		samples.FilledCrowd(api.MaxItems, 1, 1),
		samples.FilledCrowd(api.MaxItems+1, 1, 1),
		make([][]int8, api.MaxMeans),
		make([][]int8, api.MaxMeans+1),
		late,
	}
}

// wrongVectors do not go with means of two numbers each.
func wrongVectors() [][][]int8 {
	late := samples.FilledCrowd(api.MaxItems, 2, 1)
	late[api.MaxItems-1] = []int8{1, 2, 3}
	return [][][]int8{
		{nil},
		{{}},
		{{1}},
		{{1, 2, 3}},
		{{1, 2}, nil},
		{nil, {1, 2}},
		{{1, 2}, {1}, {1, 2}},
		{{1, 2}, {1, 2}, {1, 2, 3}},
		{samples.Filled(api.MaxDim, 1)},
		{samples.Filled(api.MaxDim+1, 1)},
		samples.FilledCrowd(2, 258, 1),
		samples.FilledCrowd(2, 65538, 1),
		samples.FilledCrowd(api.MaxItems+1, 2, 1),
		samples.FilledCrowd(2*api.MaxItems, 2, 1),
		make([][]int8, api.MaxItems),
		late,
	}
}

// P7.1

func TestNearestKnown(t *testing.T) {
	m := samples.Line(0, 10)
	for v, want := range map[int8]int{4: 0, 5: 0, 6: 1, 0: 0, 10: 1, -128: 0, 127: 1} {
		checkNearest(t, m, []int8{v}, want)
	}
	checkNoNearest(t, nil, []int8{4})
	checkNoNearest(t, samples.Line(0), []int8{1, 2})
	checkNearest(t, samples.Line(7), []int8{-128}, 0)
	checkNearest(t, pairs(0, 0, 10, 10, 4, 6, -128, 127), []int8{-100, 100}, 3)
	checkNearest(t, pairs(0, 5, 3, 3), []int8{0, 0}, 1)
}

// Of several that are as near the first one is taken.
func TestNearestTakesTheFirst(t *testing.T) {
	checkNearest(t, samples.Line(10, 0), []int8{5}, 0)
	checkNearest(t, samples.Line(3, 3, 3), []int8{3}, 0)
	checkNearest(t, samples.Line(3, 3, 3), []int8{100}, 0)
	checkNearest(t, samples.Line(90, 7, 5, 7), []int8{6}, 1)
	checkNearest(t, samples.Line(90, 4, 8, 6, 6), []int8{6}, 3)
	checkNearest(t, samples.Line(127, 126, -128), []int8{-1}, 1)
	checkNearest(t, pairs(9, 9, 0, 1, 1, 0, 0, -1, -1, 0), []int8{0, 0}, 1)
	checkNearest(t, samples.FilledCrowd(api.MaxMeans, api.MaxDim, 1), samples.Filled(api.MaxDim, 1), 0)
	checkNearest(t, samples.FilledCrowd(api.MaxMeans, api.MaxDim, -128), samples.Filled(api.MaxDim, 127), 0)
}

// Each place is told, up to the last one of MaxMeans.
func TestNearestTellsEachPlace(t *testing.T) {
	for place := range api.MaxMeans {
		m := samples.FilledCrowd(api.MaxMeans, api.MaxDim, 127)
		m[place][api.MaxDim-1] = 126
		checkNearest(t, m, samples.Filled(api.MaxDim, -128), place)
	}
}

// Each number that one may have, of a mean and of a vector.
func TestNearestOfEachTwoNumbers(t *testing.T) {
	for x := -128; x <= 127; x++ {
		for y := -128; y <= 127; y++ {
			want := 0
			if (y-1)*(y-1) < (x-y)*(x-y) {
				want = 1
			}
			checkNearest(t, samples.Line(int8(x), 1), []int8{int8(y)}, want)
		}
	}
}

func TestNearestRefuses(t *testing.T) {
	for _, m := range wrongMeans() {
		for _, v := range [][]int8{nil, {}, {1}, {1, 2}, samples.Filled(api.MaxDim, 1), samples.Filled(api.MaxDim+1, 1)} {
			checkNoNearest(t, m, v)
		}
		if len(m) > 0 {
			checkNoNearest(t, m, m[0])
			checkNoNearest(t, m, m[len(m)-1])
		}
	}
	for size := 1; size <= api.MaxDim; size++ {
		for other := range api.MaxDim + 2 {
			if other != size {
				checkNoNearest(t, samples.FilledCrowd(2, size, 1), samples.Filled(other, 1))
			}
		}
		checkNoNearest(t, samples.FilledCrowd(2, size, 1), samples.Filled(size+256, 1))
	}
}

func TestCostKnown(t *testing.T) {
	m := samples.Line(0, 10)
	checkCost(t, m, samples.Line(1, 9, 5), 27)
	checkCost(t, m, nil, 0)
	checkCost(t, m, [][]int8{}, 0)
	checkCost(t, m, samples.Line(0, 10, 0, 10), 0)
	checkCost(t, m, samples.Line(5, 5, 5), 75)
	checkCost(t, m, samples.Line(-128, 127), 128*128+117*117)
	checkCost(t, samples.Line(-128), samples.Line(127), 65025)
	checkCost(t, pairs(0, 0, 10, 10), pairs(3, 4, 9, 12), 30)
}

func TestCostUpToTheLimits(t *testing.T) {
	l := samples.FilledCrowd(api.MaxItems, api.MaxDim, 127)
	most := int64(65025 * api.MaxDim * api.MaxItems)
	checkCost(t, samples.FilledCrowd(1, api.MaxDim, -128), l, most)
	checkCost(t, samples.FilledCrowd(api.MaxMeans, api.MaxDim, -128), l, most)
	l[0][0] = -128
	checkCost(t, samples.FilledCrowd(api.MaxMeans, api.MaxDim, -128), l, most-65025)
	l[api.MaxItems-1][api.MaxDim-1] = -128
	checkCost(t, samples.FilledCrowd(api.MaxMeans, api.MaxDim, -128), l, most-2*65025)
}

// P7.1, P7.2

func TestStepAndCostRefuse(t *testing.T) {
	for _, m := range wrongMeans() {
		for _, l := range [][][]int8{nil, {}, {{1}}, {{1, 2}}, {nil}, m, samples.FilledCrowd(2, api.MaxDim, 1), samples.FilledCrowd(2, api.MaxDim+1, 1)} {
			checkRefused(t, m, l)
		}
	}
	for _, m := range [][][]int8{{{1, 2}}, {{1, 2}, {3, 4}}, samples.FilledCrowd(api.MaxMeans, 2, 1)} {
		for _, l := range wrongVectors() {
			checkRefused(t, m, l)
		}
	}
}

func TestStepAndCostRefuseUnlikeLengths(t *testing.T) {
	for size := 1; size <= api.MaxDim; size++ {
		for other := range api.MaxDim + 2 {
			if other != size {
				checkRefused(t, samples.FilledCrowd(2, size, 1), samples.FilledCrowd(2, other, 1))
			}
		}
	}
}

func TestMeansAgreeWithThePlainOnes(t *testing.T) {
	for size := 1; size <= api.MaxDim; size++ {
		for _, count := range []int{1, 2, 3, 7} {
			l := samples.Crowd(uint64(size), 30, size)
			checkAll(t, samples.Crowd(uint64(size+5000), count, size), l)
			checkAll(t, l[5:5+count], l)
		}
	}
	for count := 1; count <= api.MaxMeans; count++ {
		l := samples.Crowd(uint64(count), 100, 2)
		checkAll(t, samples.Crowd(uint64(count+5000), count, 2), l)
		checkAll(t, l[:count], l)
	}
}

// Vectors of few numbers, so that many means are as near, or the same.
func TestMeansAgreeWithThePlainOnesWhereManyAreAsNear(t *testing.T) {
	draw := samples.Drawer(7)
	few := func(count, size int) [][]int8 {
		l := make([][]int8, count)
		for i := range l {
			for range size {
				l[i] = append(l[i], int8(draw()%5)-2)
			}
		}
		return l
	}
	for range 300 {
		size := int(1 + draw()%3)
		checkAll(t, few(int(1+draw()%9), size), few(int(draw()%40), size))
	}
}

func TestMeansAgreeWithThePlainOnesAtTheLimits(t *testing.T) {
	for _, size := range []int{1, api.MaxDim} {
		l := samples.Crowd(3, api.MaxItems, size)
		checkAll(t, samples.Crowd(4, api.MaxMeans, size), l)
		checkAll(t, samples.Crowd(4, 1, size), l)
		checkAll(t, l[:api.MaxMeans], l)
		checkAll(t, samples.Crowd(4, api.MaxMeans, size), nil)
		checkAll(t, samples.Crowd(4, api.MaxMeans, size), l[:1])
	}
}

// P7.2

func TestStepKnown(t *testing.T) {
	checkStep(t, samples.Line(0, 10), samples.Line(1, 3, 9), samples.Line(2, 9))
	checkStep(t, samples.Line(0, 10, 90), samples.Line(1, 3, 9), samples.Line(2, 9, 90))
	checkStep(t, samples.Line(0, 10), nil, samples.Line(0, 10))
	checkStep(t, samples.Line(0, 10), [][]int8{}, samples.Line(0, 10))
	checkStep(t, samples.Line(90, 10, 0), samples.Line(1, 3, 9), samples.Line(90, 9, 2))
	checkStep(t, samples.Line(5), samples.Line(1, 3, 9), samples.Line(4))
	checkStep(t, samples.Line(-128, 127), samples.Line(127, -128), samples.Line(-128, 127))
	checkStep(t, pairs(0, 0, 10, 10), pairs(1, -1, 2, -2, 8, 12), pairs(2, -2, 8, 12))
}

// A mean to which none is nearest stays, wherever it stands.
func TestStepKeepsMeansWithoutVectors(t *testing.T) {
	checkStep(t, samples.Line(90, 0, 91, 10, 92), samples.Line(1, 3, 9), samples.Line(90, 2, 91, 9, 92))
	checkStep(t, pairs(-128, 127, 0, 0), pairs(5, 5), pairs(-128, 127, 5, 5))
	m := samples.Crowd(9, api.MaxMeans, api.MaxDim)
	checkStep(t, m, nil, samples.Copies(m))
	want := samples.Copies(m)
	for _, place := range []int{0, 1, 31, api.MaxMeans - 1} {
		checkStep(t, m, [][]int8{m[place]}, want)
	}
}

// Of the same mean twice the first one gets the vectors, and the other one stays.
func TestStepOfTheSameMeanTwice(t *testing.T) {
	checkStep(t, samples.Line(5, 5), samples.Line(1, 3, 9), samples.Line(4, 5))
	checkStep(t, samples.Line(90, 5, 5, 5), samples.Line(1, 3, 9), samples.Line(90, 4, 5, 5))
	checkStep(t, samples.FilledCrowd(api.MaxMeans, 1, 5), samples.Line(7, 8), append(samples.Line(8), samples.FilledCrowd(api.MaxMeans-1, 1, 5)...))
}

// A vector halfway between two means goes to the first one.
func TestStepWhereTwoAreAsNear(t *testing.T) {
	checkStep(t, samples.Line(0, 10), samples.Line(5, 5, 6), samples.Line(5, 6))
	checkStep(t, samples.Line(10, 0), samples.Line(5, 5, 6), samples.Line(5, 0))
}

// A step goes by the means as they were handed in, not by those that it has made.
func TestStepGoesByTheMeansAhead(t *testing.T) {
	checkStep(t, samples.Line(0, 10, 20), samples.Line(4, 5, 14, 15, 24), samples.Line(5, 15, 24))
	checkStep(t, samples.Line(0, 100), samples.Line(49, 49, 49, 51), samples.Line(49, 51))
}

// A vector that is there several times counts as often.
func TestStepCountsTheSameVectorAgain(t *testing.T) {
	v := []int8{10, -10}
	checkStep(t, pairs(0, 0, 90, 90), [][]int8{v, v, {0, 0}, v}, pairs(8, -8, 90, 90))
}

// Halfway between two whole numbers the mean is the one farther from 0.
func TestStepAtHalves(t *testing.T) {
	checkStep(t, samples.Line(-50, 50), samples.Line(-3, -4, 3, 4), samples.Line(-4, 4))
	checkStep(t, samples.Line(-50, 50), samples.Line(-127, -128, 126, 127), samples.Line(-128, 127))
	checkStep(t, samples.Line(-1), samples.Line(-128, 127), samples.Line(-1))
	checkStep(t, samples.Line(-50, 50), samples.Line(-1, -2, -1, 2, 1, 1), samples.Line(-1, 1))
}

func TestStepOfTheLeastAndTheGreatest(t *testing.T) {
	for _, n := range []int8{-128, 127} {
		l := samples.FilledCrowd(api.MaxItems, api.MaxDim, n)
		want := samples.FilledCrowd(api.MaxMeans, api.MaxDim, 0)
		want[0] = samples.Filled(api.MaxDim, n)
		checkStep(t, samples.FilledCrowd(api.MaxMeans, api.MaxDim, 0), l, want)
	}
	m := [][]int8{samples.Filled(api.MaxDim, -128), samples.Filled(api.MaxDim, 127)}
	checkStep(t, m, [][]int8{m[1], m[0], m[1]}, samples.Copies(m))
}

// P7.3

func TestTrainKnown(t *testing.T) {
	l := samples.Line(1, 3, 9)
	checkTrain(t, l, 3, 5, 7, l)
	checkTrain(t, l, 1, 1, 7, samples.Line(4))
	checkNoTrain(t, samples.Line(1, 3), 3, 1, 7)
	checkNoTrain(t, nil, 1, 1, 7)
	checkNoTrain(t, samples.Line(1), 1, 101, 7)
	checkTrain(t, samples.Line(-128), 1, 100, 7, samples.Line(-128))
	checkTrain(t, [][]int8{samples.Filled(api.MaxDim, 127)}, 1, 0, 7, [][]int8{samples.Filled(api.MaxDim, 127)})
}

// Numbers reckoned outside the program.
func TestTrainOnALineReckonedOutside(t *testing.T) {
	l := samples.Line(-128, -90, -50, -49, -3, 0, 1, 2, 40, 41, 44, 80, 100, 126, 127)
	for _, c := range []struct {
		seed  uint64
		first []int8 // behind no round
		then  [][]int8
	}{
		{0, []int8{-49}, [][]int8{{16}, {16}}},
		{0, []int8{-49, 127}, [][]int8{{-40, 80}, {-40, 80}}},
		{0, []int8{-49, 41, 127}, [][]int8{{-79, 26, 118}, {-79, 18, 108}, {-79, 18, 108}}},
		{0, []int8{-49, 1, 41, 126, 127}, [][]int8{{-79, 0, 51, 113, 127}, {-79, 0, 51, 100, 127}, {-79, 0, 42, 90, 127}}},
		{1, []int8{1}, [][]int8{{16}}},
		{1, []int8{1, 41}, [][]int8{{-40, 80}}},
		{1, []int8{-49, 1, 41}, [][]int8{{-79, 0, 80}, {-79, 8, 86}, {-79, 18, 108}}},
		{1, []int8{-50, -49, 1, 41, 44}, [][]int8{{-89, -49, 0, 41, 95}, {-109, -50, 0, 42, 108}}},
		{7, []int8{-90, -50}, [][]int8{{-109, 35}, {-79, 51}}},
		{7, []int8{-90, -50, -3}, [][]int8{{-109, -50, 51}, {-109, -26, 62}, {-109, -17, 80}}},
		{7, []int8{-128, -90, -50, -3, 80}, [][]int8{{-128, -90, -50, 0, 80}, {-128, -90, -50, 8, 86}, {-128, -90, -50, 18, 108}}},
		{1 << 63, []int8{-49, 2, 126}, [][]int8{{-79, 18, 108}}},
		{math.MaxUint64, []int8{-128, -50, 40}, [][]int8{{-109, -50, 51}, {-109, -26, 62}, {-109, -17, 80}}},
	} {
		k := len(c.first)
		checkTrain(t, l, k, 0, c.seed, samples.Line(c.first...))
		for i, want := range c.then {
			checkTrain(t, l, k, i+1, c.seed, samples.Line(want...))
		}
		checkTrain(t, l, k, api.MaxRounds, c.seed, samples.Line(c.then[len(c.then)-1]...))
	}
}

func TestTrainInAPlaneReckonedOutside(t *testing.T) {
	l := pairs(0, 0, 1, 1, 0, 2, 10, 10, 11, 9, -20, 5, -22, 7, -21, -1, 50, -50, 52, -51, 127, 127, -128, -128)
	for _, c := range []struct {
		seed   uint64
		rounds int
		want   [][]int8
		cost   int64
	}{
		{0, 0, pairs(11, 9), 0},
		{0, 1, pairs(5, -6), 76443},
		{0, 0, pairs(1, 1, 11, 9), 0},
		{0, 1, pairs(-18, -21, 50, 24), 0},
		{0, 2, pairs(-12, -15, 90, 38), 0},
		{0, 100, pairs(-6, -18, 127, 127), 40981},
		{0, 1, pairs(0, 1, 49, 49, -48, -29, 51, -51), 0},
		{0, 2, pairs(-5, 4, 127, 127, -128, -128, 51, -51), 1465},
		{5, 1, pairs(31, 6, -48, -29), 56435},
		{5, 0, pairs(1, 1, -21, -1, 50, -50, 127, 127), 0},
		{5, 1, pairs(4, 4, -48, -29, 51, -51, 127, 127), 0},
		{5, 2, pairs(-5, 4, -128, -128, 51, -51, 127, 127), 1465},
		{math.MaxUint64, 1, pairs(-10, 2, 69, 69, 38, -31, -128, -128), 0},
		{math.MaxUint64, 3, pairs(-5, 4, 127, 127, 51, -51, -128, -128), 1465},
		{3, 9, l, 0},
	} {
		checkTrain(t, l, len(c.want), c.rounds, c.seed, c.want)
		if c.cost > 0 {
			checkCost(t, c.want, l, c.cost)
		}
	}
}

// Without a round the means are the vectors that are picked, in the order in which they came.
func TestTrainWithoutARound(t *testing.T) {
	l := samples.Crowd(2, 50, 3)
	for seed := range uint64(50) {
		for _, k := range []int{1, 2, 10, 49, 50} {
			places, _, _ := draws.Pick(seed, len(l), k)
			checkTrain(t, l, k, 0, seed, at(l, places...))
		}
	}
}

func TestTrainAgreesWithThePlainOne(t *testing.T) {
	for _, seed := range []uint64{0, 1, 2, 7, 1 << 63, 1<<63 - 1, math.MaxUint64, 0x0123456789abcdef} {
		for _, size := range []int{1, 2, 5, api.MaxDim} {
			l := samples.Crowd(seed, 70, size)
			for _, k := range []int{1, 2, 3, 8, 63, api.MaxMeans} {
				for _, rounds := range []int{0, 1, 2, 3, 7} {
					checkTrain(t, l, k, rounds, seed, plainTrain(l, k, rounds, seed))
				}
			}
		}
	}
}

func TestTrainAgreesWithThePlainOneAtTheLimits(t *testing.T) {
	for _, size := range []int{1, api.MaxDim} {
		l := samples.Crowd(1, api.MaxItems, size)
		for _, rounds := range []int{0, 1, 2} {
			checkTrain(t, l, api.MaxMeans, rounds, 5, plainTrain(l, api.MaxMeans, rounds, 5))
			checkTrain(t, l, 1, rounds, 5, plainTrain(l, 1, rounds, 5))
		}
	}
}

// slowLine makes vectors of which a training with that seed goes on for more than MaxRounds: the means start side by side at one end of the line.
func slowLine(k int, seed uint64) [][]int8 {
	places, _, _ := draws.Pick(seed, api.MaxItems, k)
	l := make([][]int8, api.MaxItems)
	for i, place := range places {
		l[place] = []int8{int8(i - 128)}
	}
	for i := range l {
		if l[i] == nil {
			l[i] = []int8{int8(i/8 - 128)}
		}
	}
	return l
}

// Each round counts, up to MaxRounds.
func TestTrainDoesEachRound(t *testing.T) {
	const k, seed = 16, 3
	l := slowLine(k, seed)
	m := plainTrain(l, k, 0, seed)
	for rounds := range api.MaxRounds + 1 {
		checkTrain(t, l, k, rounds, seed, m)
		stepped := plainStep(m, l)
		if samples.Same(stepped, m) {
			t.Fatalf("behind %d rounds a step changes nothing: the vectors are no test of more", rounds)
		}
		m = stepped
	}
	checkNoTrain(t, l, k, api.MaxRounds+1, seed)
}

// Of as many means as vectors, and of vectors that are all the same, no step changes one.
func TestTrainWhereAStepChangesNoMean(t *testing.T) {
	l := samples.Crowd(3, api.MaxMeans, 4)
	for _, rounds := range []int{0, 1, 2, 99, api.MaxRounds} {
		checkTrain(t, l, api.MaxMeans, rounds, 1, l)
		checkTrain(t, samples.FilledCrowd(9, 3, -7), 4, rounds, 1, samples.FilledCrowd(4, 3, -7))
		checkTrain(t, samples.Line(1, 3, 9), 1, max(rounds, 1), 1, samples.Line(4))
	}
}

// Unlike seeds pick unlike vectors, and may end at unlike means.
func TestTrainHangsOnTheSeed(t *testing.T) {
	l := samples.Crowd(4, 200, 3)
	var picked, ended [][][]int8
	for seed := range uint64(20) {
		first, _ := means.Train(l, 5, 0, seed)
		last, _ := means.Train(l, 5, api.MaxRounds, seed)
		picked = append(picked, first)
		ended = append(ended, last)
	}
	for seed := 1; seed < 20; seed++ {
		if samples.Same(picked[0], picked[seed]) {
			t.Errorf("seeds 0 and %d pick the same", seed)
		}
	}
	if !slices.ContainsFunc(ended, func(m [][]int8) bool { return !samples.Same(m, ended[0]) }) {
		t.Error("all seeds end at the same means")
	}
}

func TestTrainRefusesCounts(t *testing.T) {
	wrong := []int{-1, -2, math.MinInt, math.MinInt + 1, -1 << 32, -1<<32 + 1, 1 << 32, 1<<32 + 1, 1 << 62, math.MaxInt}
	for _, count := range []int{1, 2, 63, 64, 65, 100, api.MaxItems} {
		l := samples.FilledCrowd(count, 2, 1)
		for _, k := range append([]int{0, count + 1, api.MaxMeans + 1, api.MaxItems, api.MaxItems + 1, 256 + 1}, wrong...) {
			if k < 1 || k > count || k > api.MaxMeans {
				checkNoTrain(t, l, k, 1, 7)
				checkNoTrain(t, l, k, 0, 7)
				checkNoTrain(t, l, k, -1, 7)
			}
		}
		for _, rounds := range append([]int{api.MaxRounds + 1, 256 + 1, 65536 + 1}, wrong...) {
			checkNoTrain(t, l, 1, rounds, 7)
			checkNoTrain(t, l, min(count, api.MaxMeans), rounds, 7)
			checkNoTrain(t, l, 0, rounds, 7)
		}
		most := min(count, api.MaxMeans)
		checkTrain(t, l, most, api.MaxRounds, 7, samples.FilledCrowd(most, 2, 1))
	}
}

func TestTrainRefusesVectors(t *testing.T) {
	late := samples.FilledCrowd(api.MaxItems, 2, 1)
	late[api.MaxItems-1] = []int8{1}
	for _, l := range [][][]int8{
		nil,
		{},
		{nil},
		{{}},
		{{}, {}, {}},
		{{1}, {1, 2}, {1}},
		{{1, 2}, {1}, {1}},
		{{1}, {1}, nil},
		{nil, {1}, {1}},
		{samples.Filled(api.MaxDim+1, 1)},
		{samples.Filled(api.MaxDim, 1), samples.Filled(api.MaxDim+1, 1)},
		samples.FilledCrowd(3, api.MaxDim+1, 1),
		samples.FilledCrowd(3, 257, 1),
		samples.FilledCrowd(api.MaxItems+1, 1, 1),
		samples.FilledCrowd(api.MaxItems+1, api.MaxDim, 1),
		samples.FilledCrowd(3*api.MaxItems, 1, 1),
		make([][]int8, api.MaxItems),
		late,
	} {
		for _, rounds := range []int{0, 1, api.MaxRounds, api.MaxRounds + 1} {
			for _, k := range []int{-1, 0, 1, 2, len(l), api.MaxMeans} {
				checkNoTrain(t, l, k, rounds, 7)
			}
		}
	}
}

// P7.4

func mustCost(t *testing.T, m, l [][]int8) int64 {
	t.Helper()
	n, e := means.Cost(m, l)
	if e != api.OK {
		t.Fatalf("Cost(%d means, %d vectors): %d", len(m), len(l), e)
	}
	return n
}

func mustStep(t *testing.T, m, l [][]int8) [][]int8 {
	t.Helper()
	s, e := means.Step(m, l)
	if e != api.OK {
		t.Fatalf("Step(%d means, %d vectors): %d", len(m), len(l), e)
	}
	return s
}

func mustTrain(t *testing.T, l [][]int8, k, rounds int, seed uint64) [][]int8 {
	t.Helper()
	m, e := means.Train(l, k, rounds, seed)
	if e != api.OK {
		t.Fatalf("Train(%d vectors, %d, %d, %x): %d", len(l), k, rounds, seed, e)
	}
	return m
}

// checkSteps: no step makes the cost greater, and behind one that changes no mean none changes one.
func checkSteps(t *testing.T, m, l [][]int8, most int) {
	t.Helper()
	cost := mustCost(t, m, l)
	still := false
	for range most {
		stepped := mustStep(t, m, l)
		least := mustCost(t, stepped, l)
		if least > cost {
			t.Fatalf("a step from %v to %v makes the cost greater: %d, %d", m, stepped, cost, least)
		}
		if still && !samples.Same(stepped, m) {
			t.Fatalf("a step that changed no mean does: %v, %v", m, stepped)
		}
		still = samples.Same(stepped, m)
		m, cost = stepped, least
	}
}

func TestAStepNeverMakesTheCostGreater(t *testing.T) {
	for seed := range uint64(20) {
		for _, size := range []int{1, 2, 9, api.MaxDim} {
			for _, k := range []int{1, 2, 7, api.MaxMeans} {
				l := samples.Crowd(seed, 150, size)
				checkSteps(t, samples.Crowd(seed+77777, k, size), l, 12)
				checkSteps(t, l[:k], l, 12)
			}
		}
	}
	checkSteps(t, samples.Line(1, 2), nil, 3)
	checkSteps(t, samples.Line(-128, 127, 0, 0), samples.Line(-128, 127, -1, 0, 1), 5)
	l := slowLine(16, 3)
	checkSteps(t, l[:16], l, 200)
}

// Fractions beside the halves are where a step could go the wrong way.
func TestAStepNeverMakesTheCostGreaterOfFewNumbers(t *testing.T) {
	for x := int8(-3); x <= 3; x++ {
		for y := int8(-3); y <= 3; y++ {
			for z := int8(-3); z <= 3; z++ {
				for n := int8(-4); n <= 4; n++ {
					checkSteps(t, samples.Line(n), samples.Line(x, y, z), 3)
					checkSteps(t, samples.Line(n, 0), samples.Line(x, y, z, n), 3)
				}
			}
		}
	}
}

// More rounds never cost more, and the means that a training ends at stay.
func TestMoreRoundsNeverCostMore(t *testing.T) {
	l := samples.Crowd(6, 300, 2)
	for seed := range uint64(10) {
		cost := int64(math.MaxInt64)
		for _, rounds := range []int{0, 1, 2, 3, 4, 5, 10, 20, 50, api.MaxRounds} {
			m := mustTrain(t, l, 6, rounds, seed)
			least := mustCost(t, m, l)
			if least > cost {
				t.Errorf("seed %d: %d rounds cost %d; fewer %d", seed, rounds, least, cost)
			}
			cost = least
		}
		last := mustTrain(t, l, 6, api.MaxRounds, seed)
		checkStep(t, last, l, plainStep(last, l))
		if !samples.Same(plainStep(last, l), last) {
			t.Errorf("seed %d: the vectors need more than MaxRounds", seed)
		}
	}
}

// R4, R5

func TestArgumentsStayAsTheyAre(t *testing.T) {
	m, meansRoom := samples.Roomy(1, 4, 3)
	l, vectorsRoom := samples.Roomy(2, 20, 3)
	meansAhead, vectorsAhead := meansRoom(), vectorsRoom()
	for range 2 {
		means.Nearest(m, l[0])
		means.Cost(m, l)
		means.Step(m, l)
		means.Step(m, nil)
		means.Step(l, l)
		means.Train(l, 5, 10, 7)
		means.Train(l, 20, 0, 7)
		means.Train(l, 21, 0, 7)
		means.Step(m, m[:0])
	}
	if !samples.Same(meansRoom(), meansAhead) || !samples.Same(vectorsRoom(), vectorsAhead) {
		t.Error("what was handed in is changed")
	}
}

// What stands in a list's spare room does not count.
func TestSpareRoomDoesNotCount(t *testing.T) {
	m, _ := samples.Roomy(1, 4, 3)
	l, _ := samples.Roomy(2, 20, 3)
	checkAll(t, m, l)
	for _, v := range l {
		want, _ := plainNearest(samples.Copies(m), v)
		checkNearest(t, m, v, want)
	}
	checkStep(t, m, l, plainStep(samples.Copies(m), samples.Copies(l)))
	checkTrain(t, l, 4, 3, 7, plainTrain(samples.Copies(l), 4, 3, 7))
	most, _ := samples.Roomy(3, api.MaxMeans, api.MaxDim)
	many, _ := samples.Roomy(4, api.MaxItems, api.MaxDim)
	checkStep(t, most, many, plainStep(most, many))
	checkTrain(t, many, api.MaxMeans, 1, 7, plainTrain(many, api.MaxMeans, 1, 7))
}

// Whatever is done to an answer, what was handed in stays, and another answer, and the next one is the same.
func TestAnswersShareNoMemory(t *testing.T) {
	m, l := samples.Line(0, 10, 90, 10), samples.Line(1, 3, 9)
	answers := map[string]func() [][]int8{
		"Step":               func() [][]int8 { return mustStep(t, m, l) },
		"Step of none":       func() [][]int8 { return mustStep(t, m, nil) },
		"Step of themselves": func() [][]int8 { return mustStep(t, l, l) },
		"Train, no round":    func() [][]int8 { return mustTrain(t, l, 2, 0, 7) },
		"Train of all":       func() [][]int8 { return mustTrain(t, l, 3, 5, 7) },
		"Train":              func() [][]int8 { return mustTrain(t, l, 2, 5, 7) },
	}
	for name, answer := range answers {
		want := samples.Copies(answer())
		other := answer()
		samples.Spoil(answer())
		if !samples.Same(m, samples.Line(0, 10, 90, 10)) || !samples.Same(l, samples.Line(1, 3, 9)) {
			t.Fatalf("%s: what was handed in is %v, %v", name, m, l)
		}
		if !samples.Same(other, want) || !samples.Same(answer(), want) {
			t.Errorf("%s: other answers are %v, %v; want %v", name, other, answer(), want)
		}
	}
}

// What was handed in may be changed: an answer stays.
func TestAnswersKeepNoArgument(t *testing.T) {
	m, l := samples.Line(0, 10, 90), samples.Line(1, 3, 9)
	step, none := mustStep(t, m, l), mustStep(t, m, nil)
	first, all := mustTrain(t, l, 3, 0, 7), mustTrain(t, l, 3, 5, 7)
	samples.Spoil(m)
	samples.Spoil(l)
	if !samples.Same(step, samples.Line(2, 9, 90)) || !samples.Same(none, samples.Line(0, 10, 90)) {
		t.Errorf("Step: %v, %v", step, none)
	}
	if !samples.Same(first, samples.Line(1, 3, 9)) || !samples.Same(all, samples.Line(1, 3, 9)) {
		t.Errorf("Train: %v, %v", first, all)
	}
}

// checkApart: each list of an answer can be changed, its spare room too, without another one.
func checkApart(t *testing.T, name string, l [][]int8) {
	t.Helper()
	for i := range l {
		others := samples.Copies(l)
		whole := l[i][:cap(l[i])]
		for j := range whole {
			whole[j]++
		}
		others[i] = slices.Clone(l[i])
		if !samples.Same(l, others) {
			t.Errorf("%s: list %d shares memory with another one", name, i)
		}
	}
}

// Not even where one vector was handed in at several places.
func TestListsOfAnAnswerShareNoMemory(t *testing.T) {
	v := []int8{7, 8, 9}
	twice := [][]int8{v, v, v, v}
	step := mustStep(t, twice, nil)
	checkApart(t, "Step of none", step)
	checkApart(t, "Step", mustStep(t, twice, twice))
	checkApart(t, "Train, no round", mustTrain(t, twice, 4, 0, 7))
	checkApart(t, "Train", mustTrain(t, twice, 4, 3, 7))
	room := samples.Noise(1, 12)
	side := [][]int8{room[:3], room[3:6], room[6:9], room[9:]}
	checkApart(t, "Step side by side", mustStep(t, side, nil))
	checkApart(t, "Train side by side", mustTrain(t, side, 4, 0, 7))
	if !slices.Equal(room, samples.Noise(1, 12)) || !slices.Equal(v, []int8{7, 8, 9}) {
		t.Error("what was handed in is changed")
	}
}

// An answer hangs on what is handed in alone, not on the calls ahead of it.
func TestCallsAheadChangeNothing(t *testing.T) {
	many := samples.Crowd(8, 200, 5)
	for range 3 {
		checkNearest(t, samples.Line(0, 10), []int8{5}, 0)
		checkCost(t, samples.Line(0, 10), samples.Line(1, 9, 5), 27)
		checkStep(t, samples.Line(0, 10, 90), samples.Line(1, 3, 9), samples.Line(2, 9, 90))
		checkTrain(t, samples.Line(1, 3, 9), 1, 1, 7, samples.Line(4))
		mustStep(t, many[:30], many)
		mustTrain(t, many, 30, 5, 9)
		mustCost(t, many[:2], many)
		checkNoTrain(t, nil, 1, 1, 7)
		checkRefused(t, nil, many)
		checkNoNearest(t, many, many[0])
	}
}

// FuzzMeans cuts bytes into means and vectors, and holds all calls against the plain ones.
func FuzzMeans(f *testing.F) {
	f.Add([]byte{0, 10, 90, 1, 3, 9}, 1, 3, 5, uint64(7))
	f.Add([]byte{0, 0, 10, 10, 1, 255, 2, 254, 128, 127}, 2, 2, 1, uint64(1))
	f.Add([]byte{5, 5, 5, 5}, 1, 2, 100, uint64(math.MaxUint64))
	f.Fuzz(func(t *testing.T, b []byte, size, k, rounds int, seed uint64) {
		if size < 1 || size > api.MaxDim || len(b) > 200*size {
			return
		}
		l := samples.Cut(b, size)
		if k < 1 || k > api.MaxMeans || k > len(l) || rounds < 0 || rounds > api.MaxRounds {
			checkNoTrain(t, l, k, rounds, seed)
			return
		}
		checkAll(t, l[:k], l[k:])
		checkSteps(t, l[:k], l[k:], 3)
		checkTrain(t, l, k, rounds, seed, plainTrain(l, k, rounds, seed))
	})
}

func BenchmarkTrain(b *testing.B) {
	l := samples.Crowd(1, api.MaxItems, api.MaxDim)
	for b.Loop() {
		means.Train(l, api.MaxMeans, api.MaxRounds, 1)
	}
}
