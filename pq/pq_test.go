package pq_test

import (
	"math"
	"slices"
	"testing"

	"lodestone/api"
	"lodestone/means"
	"lodestone/pq"
	"lodestone/samples"
	"lodestone/vec"
)

// plainParts asks of each number in which part it stands: in the last one that does not begin behind it.
func plainParts(v []int8, count int) [][]int8 {
	parts := make([][]int8, count)
	for i, n := range v {
		p := ((i+1)*count - 1) / len(v)
		parts[p] = append(parts[p], n)
	}
	return parts
}

// partsOfAll tells of each part what all the vectors have there.
func partsOfAll(l [][]int8, count int) [][][]int8 {
	all := make([][][]int8, count)
	for _, v := range l {
		for p, part := range plainParts(v, count) {
			all[p] = append(all[p], part)
		}
	}
	return all
}

// bookOf makes a book in which the w-th words of all parts together are the w-th vector.
func bookOf(l [][]int8, count int) api.Book {
	return api.Book{Parts: count, Means: partsOfAll(l, count)}
}

// example is the chapter's book, for vectors of 3 numbers.
func example() api.Book {
	return api.Book{Parts: 2, Means: [][][]int8{{{0}, {10}}, {{0, 0}, {5, 5}}}}
}

func sameBook(a, b api.Book) bool {
	return a.Parts == b.Parts && slices.EqualFunc(a.Means, b.Means, samples.Same)
}

func copyOf(b api.Book) api.Book {
	other := api.Book{Parts: b.Parts}
	for _, words := range b.Means {
		other.Means = append(other.Means, samples.Copies(words))
	}
	return other
}

func sameTable(a, b [][]int64) bool { return slices.EqualFunc(a, b, slices.Equal[[]int64]) }

func plainCode(b api.Book, v []int8) []byte {
	var code []byte
	for p, part := range plainParts(v, b.Parts) {
		place, _ := means.Nearest(b.Means[p], part)
		code = append(code, byte(place))
	}
	return code
}

func plainVector(b api.Book, code []byte) []int8 {
	var v []int8
	for p, place := range code {
		v = append(v, b.Means[p][place]...)
	}
	return v
}

func plainTable(b api.Book, v []int8) [][]int64 {
	var table [][]int64
	for p, part := range plainParts(v, b.Parts) {
		var list []int64
		for _, word := range b.Means[p] {
			far, _ := vec.Dist(word, part)
			list = append(list, far)
		}
		table = append(table, list)
	}
	return table
}

func plainBook(l [][]int8, parts, words, rounds int, seed uint64) api.Book {
	b := api.Book{Parts: parts}
	for p, own := range partsOfAll(l, parts) {
		trained, _ := means.Train(own, words, rounds, seed+uint64(p))
		b.Means = append(b.Means, trained)
	}
	return b
}

func checkBook(t *testing.T, b api.Book, dim int, want bool) {
	t.Helper()
	if ok := pq.Check(b, dim); ok != want {
		t.Errorf("Check(%v, %d) = %t", b, dim, ok)
	}
}

func checkTrain(t *testing.T, l [][]int8, parts, words, rounds int, seed uint64, want api.Book) {
	t.Helper()
	if b, e := pq.Train(l, parts, words, rounds, seed); !sameBook(b, want) || e != api.OK {
		t.Errorf("Train(%d vectors, %d, %d, %d, %x) = %v, %d; want %v", len(l), parts, words, rounds, seed, b, e, want)
	}
}

func checkNoTrain(t *testing.T, l [][]int8, parts, words, rounds int) {
	t.Helper()
	if b, e := pq.Train(l, parts, words, rounds, 5); b.Parts != 0 || len(b.Means) != 0 || e != api.ErrArg {
		t.Errorf("Train(%d vectors, %d, %d, %d) = %v, %d", len(l), parts, words, rounds, b, e)
	}
}

func checkCode(t *testing.T, b api.Book, v []int8, want ...byte) {
	t.Helper()
	if code, e := pq.Encode(b, v); !slices.Equal(code, want) || e != api.OK {
		t.Errorf("Encode(%v, %v) = %v, %d; want %v", b, v, code, e, want)
	}
}

func checkVector(t *testing.T, b api.Book, code []byte, want ...int8) {
	t.Helper()
	if v, e := pq.Decode(b, code); !slices.Equal(v, want) || e != api.OK {
		t.Errorf("Decode(%v, %v) = %v, %d; want %v", b, code, v, e, want)
	}
}

func checkNoVector(t *testing.T, b api.Book, code []byte) {
	t.Helper()
	if v, e := pq.Decode(b, code); len(v) != 0 || e != api.ErrArg {
		t.Errorf("Decode(%v, %v) = %v, %d", b, code, v, e)
	}
}

func checkTable(t *testing.T, b api.Book, v []int8, want ...[]int64) {
	t.Helper()
	if table, e := pq.Table(b, v); !sameTable(table, want) || e != api.OK {
		t.Errorf("Table(%v, %v) = %v, %d; want %v", b, v, table, e, want)
	}
}

func checkLook(t *testing.T, table [][]int64, code []byte, want int64) {
	t.Helper()
	if n, e := pq.Look(table, code); n != want || e != api.OK {
		t.Errorf("Look(%v, %v) = %d, %d; want %d", table, code, n, e, want)
	}
}

func checkNoLook(t *testing.T, table [][]int64, code []byte) {
	t.Helper()
	if n, e := pq.Look(table, code); n != 0 || e != api.ErrArg {
		t.Errorf("Look(%d lists, %v) = %d, %d", len(table), code, n, e)
	}
}

// checkRefused: neither a code nor a table is told of the vector.
func checkRefused(t *testing.T, b api.Book, v []int8) {
	t.Helper()
	if code, e := pq.Encode(b, v); len(code) != 0 || e != api.ErrArg {
		t.Errorf("Encode(%v, %d numbers) = %v, %d", b, len(v), code, e)
	}
	if table, e := pq.Table(b, v); len(table) != 0 || e != api.ErrArg {
		t.Errorf("Table(%v, %d numbers) = %v, %d", b, len(v), table, e)
	}
}

func mustCode(t *testing.T, b api.Book, v []int8) []byte {
	t.Helper()
	code, e := pq.Encode(b, v)
	if e != api.OK {
		t.Fatalf("Encode(%v, %v): %d", b, v, e)
	}
	return code
}

func mustVector(t *testing.T, b api.Book, code []byte) []int8 {
	t.Helper()
	v, e := pq.Decode(b, code)
	if e != api.OK {
		t.Fatalf("Decode(%v, %v): %d", b, code, e)
	}
	return v
}

func mustTable(t *testing.T, b api.Book, v []int8) [][]int64 {
	t.Helper()
	table, e := pq.Table(b, v)
	if e != api.OK {
		t.Fatalf("Table(%v, %v): %d", b, v, e)
	}
	return table
}

func mustLook(t *testing.T, table [][]int64, code []byte) int64 {
	t.Helper()
	n, e := pq.Look(table, code)
	if e != api.OK {
		t.Fatalf("Look(%v, %v): %d", table, code, e)
	}
	return n
}

func mustTrain(t *testing.T, l [][]int8, parts, words, rounds int, seed uint64) api.Book {
	t.Helper()
	b, e := pq.Train(l, parts, words, rounds, seed)
	if e != api.OK {
		t.Fatalf("Train(%d vectors, %d, %d, %d): %d", len(l), parts, words, rounds, e)
	}
	return b
}

// checkAll holds what is told of the book and the vector against the plain reckonings, and, by P8.5, the calls against each other.
func checkAll(t *testing.T, b api.Book, v []int8) {
	t.Helper()
	code := plainCode(b, v)
	checkBook(t, b, len(v), true)
	checkCode(t, b, v, code...)
	checkVector(t, b, code, plainVector(b, code)...)
	checkTable(t, b, v, plainTable(b, v)...)
	checkFar(t, b, v, code)
}

// checkFar: what a table says of a code is how far the vector is from what the code says.
func checkFar(t *testing.T, b api.Book, v []int8, code []byte) {
	t.Helper()
	far, e := vec.Dist(v, mustVector(t, b, code))
	if e != api.OK {
		t.Fatalf("Decode(%v, %v) has not %d numbers", b, code, len(v))
	}
	checkLook(t, mustTable(t, b, v), code, far)
}

// drawnCode names words without a pattern.
func drawnCode(b api.Book, draw func() uint64) []byte {
	code := make([]byte, b.Parts)
	for p := range code {
		code[p] = byte(draw() % uint64(len(b.Means[p])))
	}
	return code
}

// allCodes tells each code that a book has.
func allCodes(b api.Book) [][]byte {
	codes := [][]byte{nil}
	for _, words := range b.Means {
		var longer [][]byte
		for _, code := range codes {
			for w := range words {
				longer = append(longer, append(slices.Clone(code), byte(w)))
			}
		}
		codes = longer
	}
	return codes
}

// farCounts are far from all that may be.
func farCounts() []int {
	return []int{-1, -2, math.MinInt, math.MinInt + 1, -1 << 32, -1<<32 + 1, -1<<32 + 2, 1 << 32, 1<<32 + 1, 1<<32 + 2, 1 << 62, math.MaxInt, 256, 257, 258}
}

// P8.1

func TestCheckKnown(t *testing.T) {
	checkBook(t, example(), 3, true)
	checkBook(t, example(), 2, false)
	checkBook(t, example(), 4, false)
	checkBook(t, api.Book{}, 0, false)
	checkBook(t, api.Book{}, 1, false)
	checkBook(t, api.Book{Parts: 1, Means: [][][]int8{{{7}}}}, 1, true)
	checkBook(t, api.Book{Parts: 1, Means: [][][]int8{{{7, 8}, {9, 9}, {7, 8}}}}, 2, true)
	checkBook(t, bookOf(samples.Crowd(1, api.MaxMeans, api.MaxDim), api.MaxDim), api.MaxDim, true)
	checkBook(t, bookOf(samples.Crowd(1, api.MaxMeans, api.MaxDim), 1), api.MaxDim, true)
}

// Of each number of numbers, cut into each number of parts: for just so many numbers the book may be.
func TestCheckOfEachCut(t *testing.T) {
	for dim := 1; dim <= api.MaxDim; dim++ {
		for parts := 1; parts <= dim; parts++ {
			b := bookOf(samples.FilledCrowd(2, dim, 1), parts)
			for other := -1; other <= api.MaxDim+2; other++ {
				checkBook(t, b, other, other == dim)
			}
		}
		for _, other := range farCounts() {
			checkBook(t, bookOf(samples.FilledCrowd(2, dim, 1), dim), other, false)
		}
	}
}

// The sizes that the chapter's words make.
func TestCheckOfKnownSizes(t *testing.T) {
	for _, sizes := range [][]int{{1}, {64}, {2, 3}, {1, 2, 2}, {1, 1, 1, 2}, {3, 4}, {2, 2, 3}, {1, 2, 2, 2}, {1, 1, 2, 1, 2}, {1, 1, 2, 1, 2, 1, 2}, {21, 21, 22}, {12, 13, 13, 13, 13}, {9, 9, 9, 9, 9, 9, 10}} {
		dim := 0
		b := api.Book{Parts: len(sizes)}
		for _, size := range sizes {
			dim += size
			b.Means = append(b.Means, samples.FilledCrowd(3, size, 1))
		}
		checkBook(t, b, dim, true)
		if len(sizes) > 1 {
			slices.Reverse(b.Means)
			checkBook(t, b, dim, false)
		}
	}
}

func TestCheckOfEachNumberOfWords(t *testing.T) {
	for count := range api.MaxMeans + 3 {
		for _, parts := range []int{1, 2, 5} {
			b := api.Book{Parts: parts, Means: make([][][]int8, parts)}
			for p := range parts {
				b.Means[p] = samples.FilledCrowd(count, 1, 1)
			}
			checkBook(t, b, parts, 1 <= count && count <= api.MaxMeans)
		}
	}
}

// wrongBooks may not be, whatever is handed in with them.
func wrongBooks() []api.Book {
	word := [][]int8{{1}}
	l := []api.Book{
		{},
		{Parts: 1},
		{Parts: 0, Means: [][][]int8{word}},
		{Parts: 1, Means: [][][]int8{nil}},
		{Parts: 1, Means: [][][]int8{{}}},
		{Parts: 1, Means: [][][]int8{{nil}}},
		{Parts: 1, Means: [][][]int8{{{}, {}}}},
		{Parts: 1, Means: [][][]int8{word, word}},
		{Parts: 2, Means: [][][]int8{word}},
		{Parts: 2, Means: [][][]int8{word, nil}},
		{Parts: 2, Means: [][][]int8{nil, word}},
		{Parts: 2, Means: [][][]int8{nil, nil}},
		{Parts: 2, Means: [][][]int8{word, {{}}}},
		{Parts: 2, Means: [][][]int8{{{}}, word}},
		{Parts: 2, Means: [][][]int8{word, word, word}},
		{Parts: 3, Means: [][][]int8{word, word, {{1}, {2}}}},
		{Parts: 3, Means: [][][]int8{{{1}, {2}}, word, word}},
		{Parts: 3, Means: [][][]int8{word, {{1}, {2}}, word}},
		{Parts: 2, Means: [][][]int8{{{1, 2}}, word}},
		{Parts: 2, Means: [][][]int8{word, {{1, 2, 3}}}},
		{Parts: 2, Means: [][][]int8{{{1}, {1, 2}}, {{1, 2}, {1}}}},
		{Parts: 1, Means: [][][]int8{{{1}, nil}}},
		{Parts: 1, Means: [][][]int8{{{1}, {1, 2}}}},
		{Parts: 1, Means: [][][]int8{{{1, 2}, {1, 2}, {1}}}},
		bookOf(samples.FilledCrowd(2, api.MaxDim+1, 1), 1),
		bookOf(samples.FilledCrowd(2, api.MaxDim+1, 1), 2),
		bookOf(samples.FilledCrowd(2, api.MaxDim+1, 1), api.MaxDim),
		bookOf(samples.FilledCrowd(2, api.MaxDim+1, 1), api.MaxDim+1),
		bookOf(samples.FilledCrowd(2, 2*api.MaxDim, 1), 2),
		bookOf(samples.FilledCrowd(2, 1000, 1), 1),
		bookOf(samples.FilledCrowd(2, 1000, 1), 1000),
		bookOf(samples.FilledCrowd(api.MaxMeans+1, 2, 1), 2),
		bookOf(samples.FilledCrowd(256, 2, 1), 1),
		bookOf(samples.FilledCrowd(257, 2, 1), 1),
		bookOf(nil, api.MaxDim),
	}
	for _, parts := range farCounts() {
		b := example()
		b.Parts = parts
		l = append(l, b, api.Book{Parts: parts})
	}
	return append(l, spoiledBooks()...)
}

// spoiledBooks makes of a book that may be others in which one word of one part is not as it should.
func spoiledBooks() []api.Book {
	var l []api.Book
	good := bookOf(samples.Crowd(1, 3, 11), 4)
	for p := range good.Means {
		for w := range good.Means[p] {
			longer, shorter, none, fewer, more := copyOf(good), copyOf(good), copyOf(good), copyOf(good), copyOf(good)
			longer.Means[p][w] = append(longer.Means[p][w], 0)
			shorter.Means[p][w] = shorter.Means[p][w][1:]
			none.Means[p][w] = nil
			fewer.Means[p] = slices.Delete(fewer.Means[p], w, w+1)
			more.Means[p] = slices.Insert(more.Means[p], w, good.Means[p][w])
			l = append(l, longer, shorter, none, fewer, more)
		}
	}
	return l
}

func TestCheckRefuses(t *testing.T) {
	for _, b := range wrongBooks() {
		for dim := range api.MaxDim + 3 {
			checkBook(t, b, dim, false)
		}
		for _, dim := range append(farCounts(), 1000) {
			checkBook(t, b, dim, false)
		}
	}
}

// One more part than numbers has one without any.
func TestCheckRefusesMorePartsThanNumbers(t *testing.T) {
	for dim := 1; dim <= api.MaxDim; dim++ {
		for _, parts := range []int{dim + 1, dim + 2, 2 * dim} {
			b := api.Book{Parts: parts}
			for p := range parts {
				size := (p+1)*dim/parts - p*dim/parts
				b.Means = append(b.Means, samples.FilledCrowd(2, size, 1))
			}
			checkBook(t, b, dim, false)
			checkRefused(t, b, samples.Filled(dim, 1))
			checkNoVector(t, b, make([]byte, parts))
		}
	}
}

// P8.2

func TestTrainKnown(t *testing.T) {
	checkTrain(t, [][]int8{{1, 2}, {3, 4}}, 2, 1, 1, 5, api.Book{Parts: 2, Means: [][][]int8{{{2}}, {{3}}}})
	checkNoTrain(t, [][]int8{{1, 2}}, 3, 1, 1)
	checkNoTrain(t, [][]int8{{1, 2}}, 1, 2, 1)
	checkTrain(t, [][]int8{{1, 2}, {3, 4}}, 1, 1, 1, 5, api.Book{Parts: 1, Means: [][][]int8{{{2, 3}}}})
	checkTrain(t, [][]int8{{1, 2}, {3, 4}}, 2, 2, 0, 5, api.Book{Parts: 2, Means: [][][]int8{{{1}, {3}}, {{2}, {4}}}})
	checkTrain(t, [][]int8{{-128}}, 1, 1, 100, 5, api.Book{Parts: 1, Means: [][][]int8{{{-128}}}})
}

// Numbers reckoned outside the program.
func TestTrainReckonedOutside(t *testing.T) {
	l := [][]int8{{0, 0, 0, 0, 0}, {1, -1, 10, -10, 5}, {2, -3, 11, -12, 127}, {-128, 127, -128, 127, -128}, {50, 50, -50, -50, 7}, {51, 49, -49, -51, 9}, {-20, 30, -40, 60, -80}, {100, 99, 98, 97, 96}}
	for _, c := range []struct {
		seed          uint64
		words, rounds int
		want          [][][]int8
	}{
		{0, 2, 0, [][][]int8{{{2, -3, 11, -12, 127}, {51, 49, -49, -51, 9}}}},
		{0, 2, 0, [][][]int8{{{2, -3}, {51, 49}}, {{-128, 127, -128}, {-50, -50, 7}}}},
		{0, 2, 1, [][][]int8{{{-29, 31}, {67, 66}}, {{-84, 94, -104}, {3, -4, 41}}}},
		{0, 3, 2, [][][]int8{{{-74}, {1}, {67}}, {{24, 30}, {127, -128}, {43, -46}}, {{-12, 127}, {13, -31}, {97, 96}}}},
		{0, 2, 100, [][][]int8{{{-29}, {67}}, {{113}, {21}}, {{30}, {-67}}, {{13, -31}, {43, 112}}}},
		{0, 1, 1, [][][]int8{{{7}}, {{44}}, {{-19}}, {{20}}, {{5}}}},
		{0, 3, 3, [][][]int8{{{-128}, {-4}, {67}}, {{-1}, {113}, {43}}, {{7}, {-67}, {98}}, {{-7}, {-51}, {95}}, {{5}, {112}, {-104}}}},
		{5, 2, 0, [][][]int8{{{0, 0}, {100, 99}}, {{10, -10, 5}, {-49, -51, 9}}}},
		{5, 3, 2, [][][]int8{{{-4}, {-128}, {67}}, {{99, 98}, {-1, 7}, {64, -67}}, {{71, -28}, {-30, 6}, {-32, 68}}}},
		{5, 2, 100, [][][]int8{{{-29}, {67}}, {{7}, {81}}, {{30}, {-67}}, {{94, -104}, {-4, 41}}}},
		{math.MaxUint64, 2, 0, [][][]int8{{{-128, 127}, {100, 99}}, {{11, -12, 127}, {-49, -51, 9}}}},
		{math.MaxUint64, 2, 1, [][][]int8{{{-128, 127}, {26, 32}}, {{55, 43, 112}, {-43, 13, -31}}}},
		{math.MaxUint64, 3, 2, [][][]int8{{{-128}, {14}, {100}}, {{-1, 7}, {99, 98}, {64, -67}}, {{43, 112}, {94, -104}, {-28, 5}}}},
		{math.MaxUint64, 3, 3, [][][]int8{{{-128}, {14}, {100}}, {{30}, {-1}, {81}}, {{30}, {-128}, {-46}}, {{-7}, {-51}, {95}}, {{-104}, {5}, {112}}}},
	} {
		checkTrain(t, l, len(c.want), c.words, c.rounds, c.seed, api.Book{Parts: len(c.want), Means: c.want})
	}
}

// Each part goes by its own seed, so that parts of the same numbers pick unlike words; what is above 64 bits is lost.
func TestTrainTakesASeedForEachPart(t *testing.T) {
	var l [][]int8
	for n := range int8(100) {
		l = append(l, samples.Filled(4, n))
	}
	for _, seed := range []uint64{0, 1, 1 << 63, math.MaxUint64 - 3, math.MaxUint64 - 2, math.MaxUint64 - 1, math.MaxUint64} {
		b := mustTrain(t, l, 4, 3, 0, seed)
		for p, words := range b.Means {
			want, _ := means.Train(partsOfAll(l, 4)[p], 3, 0, seed+uint64(p))
			if !samples.Same(words, want) {
				t.Errorf("seed %x: the part %d has %v; want %v", seed, p, words, want)
			}
			if other := mustTrain(t, l, 4, 3, 0, seed+uint64(p)); !samples.Same(words, other.Means[0]) {
				t.Errorf("seed %x: the part %d has %v; the first one of its own seed has %v", seed, p, words, other.Means[0])
			}
		}
		if samples.Same(b.Means[0], b.Means[1]) && samples.Same(b.Means[1], b.Means[2]) {
			t.Errorf("seed %x: all parts have %v", seed, b.Means[0])
		}
	}
}

func TestTrainOfEachCut(t *testing.T) {
	for dim := 1; dim <= api.MaxDim; dim++ {
		l := samples.Crowd(uint64(dim), 5, dim)
		for parts := 1; parts <= dim; parts++ {
			checkTrain(t, l, parts, 3, 2, uint64(parts), plainBook(l, parts, 3, 2, uint64(parts)))
			checkBook(t, mustTrain(t, l, parts, 5, 0, 1), dim, true)
		}
	}
}

func TestTrainAgreesWithThePlainOne(t *testing.T) {
	for _, dim := range []int{1, 2, 7, 64} {
		for _, seed := range []uint64{0, 7, math.MaxUint64} {
			l := samples.Crowd(seed, 80, dim)
			for _, parts := range []int{1, 2, min(3, dim), dim} {
				for _, words := range []int{1, 2, 9, api.MaxMeans} {
					for _, rounds := range []int{0, 1, 3} {
						if parts <= dim {
							checkTrain(t, l, parts, words, rounds, seed, plainBook(l, parts, words, rounds, seed))
						}
					}
				}
			}
		}
	}
}

func TestTrainAtTheLimits(t *testing.T) {
	l := samples.Crowd(1, api.MaxItems, api.MaxDim)
	for _, parts := range []int{1, api.MaxDim} {
		checkTrain(t, l, parts, api.MaxMeans, 1, 5, plainBook(l, parts, api.MaxMeans, 1, 5))
	}
	few := samples.FilledCrowd(api.MaxItems, 1, -128)
	checkTrain(t, few, 1, api.MaxMeans, api.MaxRounds, 5, bookOf(few[:api.MaxMeans], 1))
	one := samples.Crowd(2, 1, api.MaxDim)
	checkTrain(t, one, api.MaxDim, 1, api.MaxRounds, 5, bookOf(one, api.MaxDim))
}

func TestTrainRefusesVectors(t *testing.T) {
	late := samples.FilledCrowd(api.MaxItems, 2, 1)
	late[api.MaxItems-1] = []int8{1, 2, 3}
	for _, l := range [][][]int8{
		nil,
		{},
		{nil},
		{{}},
		{{}, {}},
		{{1}, {}},
		{{}, {1}},
		{{1}, nil},
		{nil, {1}},
		{{1, 2}, {1}},
		{{1}, {1, 2}},
		{{1, 2}, {1, 2}, {1, 2, 3}},
		{{1, 2}, {1, 2, 3}, {1, 2}},
		{{1, 2, 3}, {1, 2}, {1, 2}},
		samples.FilledCrowd(1, api.MaxDim+1, 1),
		samples.FilledCrowd(3, api.MaxDim+1, 1),
		samples.FilledCrowd(3, 1000, 1),
		{samples.Filled(api.MaxDim, 1), samples.Filled(api.MaxDim+1, 1)},
		{samples.Filled(api.MaxDim+1, 1), samples.Filled(api.MaxDim, 1)},
		{samples.Filled(2, 1), samples.Filled(258, 1)},
		samples.FilledCrowd(api.MaxItems+1, 1, 1),
		samples.FilledCrowd(api.MaxItems+1, 2, 1),
		samples.FilledCrowd(api.MaxItems+1, api.MaxDim, 1),
		samples.FilledCrowd(3*api.MaxItems, 2, 1),
		make([][]int8, api.MaxItems),
		make([][]int8, api.MaxItems+1),
		late,
	} {
		for _, parts := range append(farCounts(), 0, 1, 2, 3, api.MaxDim, api.MaxDim+1) {
			for _, words := range []int{0, 1, 2, api.MaxMeans} {
				checkNoTrain(t, l, parts, words, 0)
				checkNoTrain(t, l, parts, words, 1)
			}
		}
	}
}

func TestTrainRefusesParts(t *testing.T) {
	for dim := 1; dim <= api.MaxDim; dim++ {
		l := samples.FilledCrowd(3, dim, 1)
		for _, parts := range append(farCounts(), 0, dim+1, dim+2, 2*dim, api.MaxDim+1) {
			checkNoTrain(t, l, parts, 1, 1)
		}
	}
}

func TestTrainRefusesWordsAndRounds(t *testing.T) {
	for _, count := range []int{1, 2, 63, 64, 65, api.MaxItems} {
		l := samples.FilledCrowd(count, 2, 1)
		most := min(count, api.MaxMeans)
		for _, parts := range []int{1, 2} {
			for _, words := range append(farCounts(), 0, most+1, count+1, api.MaxMeans+1) {
				checkNoTrain(t, l, parts, words, 1)
				checkNoTrain(t, l, parts, words, 0)
			}
			for _, rounds := range append(farCounts(), api.MaxRounds+1) {
				checkNoTrain(t, l, parts, 1, rounds)
				checkNoTrain(t, l, parts, most, rounds)
			}
			checkTrain(t, l, parts, most, api.MaxRounds, 5, bookOf(l[:most], parts))
			checkTrain(t, l, parts, most, 0, 5, bookOf(l[:most], parts))
		}
	}
}

// P8.3

func TestEncodeKnown(t *testing.T) {
	checkCode(t, example(), []int8{9, 1, 1}, 1, 0)
	checkCode(t, example(), []int8{5, 5, 4}, 0, 1)
	checkRefused(t, example(), []int8{1, 2})
	checkRefused(t, example(), []int8{1, 2, 3, 4})
	checkCode(t, example(), []int8{-128, 127, 127}, 0, 1)
	checkCode(t, example(), []int8{127, -128, -128}, 1, 0)
	checkCode(t, api.Book{Parts: 1, Means: [][][]int8{{{7}}}}, []int8{-128}, 0)
}

func TestDecodeKnown(t *testing.T) {
	checkVector(t, example(), []byte{1, 0}, 10, 0, 0)
	checkVector(t, example(), []byte{0, 1}, 0, 5, 5)
	checkVector(t, example(), []byte{1, 1}, 10, 5, 5)
	checkVector(t, example(), []byte{0, 0}, 0, 0, 0)
	checkNoVector(t, example(), []byte{2, 0})
	checkNoVector(t, example(), []byte{0, 2})
	checkNoVector(t, example(), []byte{1})
	checkNoVector(t, example(), []byte{1, 0, 0})
	checkVector(t, api.Book{Parts: 1, Means: [][][]int8{{{-128, 127}}}}, []byte{0}, -128, 127)
}

// Of words that are as near the first one is taken.
func TestEncodeTakesTheFirst(t *testing.T) {
	b := api.Book{Parts: 3, Means: [][][]int8{{{9}, {4}, {6}}, {{5}, {5}, {5}}, {{0, 1}, {1, 0}, {0, 0}}}}
	checkCode(t, b, []int8{5, 5, 1, 1}, 1, 0, 0)
	checkCode(t, b, []int8{8, -9, 1, 0}, 0, 0, 1)
	checkCode(t, b, []int8{6, 127, 0, -1}, 2, 0, 2)
	same := bookOf(samples.FilledCrowd(api.MaxMeans, api.MaxDim, 3), api.MaxDim)
	checkCode(t, same, samples.Filled(api.MaxDim, 4), make([]byte, api.MaxDim)...)
}

// Numbers reckoned outside the program.
func TestCodesReckonedOutside(t *testing.T) {
	b := api.Book{Parts: 3, Means: [][][]int8{{{-74}, {1}, {67}}, {{24, 30}, {127, -128}, {43, -46}}, {{-12, 127}, {13, -31}, {97, 96}}}}
	for _, c := range []struct {
		v    []int8
		code []byte
		far  [][]int64
		sum  int64
	}{
		{[]int8{0, 0, 0, 0, 0}, []byte{1, 0, 1}, [][]int64{{5476, 1, 4489}, {1476, 32513, 3965}, {16273, 1130, 18625}}, 2607},
		{[]int8{1, -1, 10, -10, 5}, []byte{1, 0, 1}, [][]int64{{5625, 0, 4356}, {1025, 35428, 5072}, {14888, 1825, 19730}}, 2850},
		{[]int8{2, -3, 11, -12, 127}, []byte{1, 0, 0}, [][]int64{{5776, 1, 4225}, {1090, 36221, 5365}, {0, 25589, 12842}}, 1091},
		{[]int8{-128, 127, -128, 127, -128}, []byte{0, 1, 1}, [][]int64{{2916, 16641, 38025}, {35573, 0, 13780}, {84346, 22405, 51076}}, 25321},
		{[]int8{50, 50, -50, -50, 7}, []byte{2, 2, 1}, [][]int64{{15376, 2401, 289}, {7076, 12013, 65}, {15844, 5413, 29530}}, 5767},
		{[]int8{-20, 30, -40, 60, -80}, []byte{1, 2, 1}, [][]int64{{2916, 441, 7569}, {4936, 17153, 205}, {48033, 4610, 32345}}, 5256},
		{[]int8{100, 99, 98, 97, 96}, []byte{2, 0, 2}, [][]int64{{30276, 9801, 1089}, {10249, 51860, 23872}, {12842, 23185, 0}}, 11338},
	} {
		checkCode(t, b, c.v, c.code...)
		checkTable(t, b, c.v, c.far...)
		checkLook(t, c.far, c.code, c.sum)
		checkAll(t, b, c.v)
	}
}

// A vector that stands in the book is told whole, as the code that names it.
func TestCodesOfTheWordsThemselves(t *testing.T) {
	for _, parts := range []int{1, 2, 3, 10, 63, api.MaxDim} {
		l := make([][]int8, api.MaxMeans)
		for w := range l {
			l[w] = samples.Filled(api.MaxDim, int8(4*w-128))
		}
		b := bookOf(l, parts)
		for w, v := range l {
			code := slices.Repeat([]byte{byte(w)}, parts)
			checkCode(t, b, v, code...)
			checkVector(t, b, code, v...)
			checkLook(t, mustTable(t, b, v), code, 0)
		}
	}
}

// Each number belongs to its part: the code names the word that differs there.
func TestEncodeHearsEachNumber(t *testing.T) {
	for _, dim := range []int{1, 5, 7, 64} {
		for parts := 1; parts <= dim; parts++ {
			b := bookOf([][]int8{samples.Filled(dim, 0), samples.Filled(dim, 1)}, parts)
			at := 0
			for p, part := range plainParts(make([]int8, dim), parts) {
				for range part {
					v := make([]int8, dim)
					v[at] = 127
					want := make([]byte, parts)
					want[p] = 1
					checkCode(t, b, v, want...)
					at++
				}
			}
		}
	}
}

func TestCodesAgreeWithThePlainOnes(t *testing.T) {
	draw := samples.Drawer(3)
	for dim := 1; dim <= api.MaxDim; dim++ {
		for parts := 1; parts <= dim; parts++ {
			b := bookOf(samples.Crowd(draw(), int(1+draw()%5), dim), parts)
			checkAll(t, b, samples.Noise(draw(), dim))
			code := drawnCode(b, draw)
			checkVector(t, b, code, plainVector(b, code)...)
			checkFar(t, b, samples.Noise(draw(), dim), code)
		}
	}
	for _, parts := range []int{1, 7, api.MaxDim} {
		b := bookOf(samples.Crowd(draw(), api.MaxMeans, api.MaxDim), parts)
		for range 50 {
			checkAll(t, b, samples.Noise(draw(), api.MaxDim))
			checkFar(t, b, samples.Noise(draw(), api.MaxDim), drawnCode(b, draw))
		}
	}
}

// Vectors of few numbers, so that many words are as near, or the same.
func TestCodesAgreeWithThePlainOnesWhereManyAreAsNear(t *testing.T) {
	draw := samples.Drawer(4)
	for range 300 {
		dim := int(1 + draw()%6)
		l := samples.Crowd(draw(), int(1+draw()%8), dim)
		v := samples.Noise(draw(), dim)
		for _, w := range append(l, v) {
			for i := range w {
				w[i] &= 3
			}
		}
		checkAll(t, bookOf(l, 1+int(draw()%uint64(dim))), v)
	}
}

// Behind a training the vectors that went in have codes too.
func TestCodesOfTrainedBooks(t *testing.T) {
	l := samples.Crowd(5, 100, 10)
	for parts := 1; parts <= 10; parts++ {
		b := mustTrain(t, l, parts, 16, 3, 9)
		for _, v := range l {
			checkAll(t, b, v)
		}
	}
	all := mustTrain(t, l[:20], 3, 20, 0, 9)
	for _, v := range l[:20] {
		checkVector(t, all, mustCode(t, all, v), v...)
	}
}

// P8.3, P8.4

func TestBooksThatMayNotBeAreRefused(t *testing.T) {
	for _, b := range wrongBooks() {
		for size := range api.MaxDim + 3 {
			checkRefused(t, b, samples.Filled(size, 1))
		}
		checkRefused(t, b, nil)
		checkRefused(t, b, samples.Filled(1000, 1))
		checkNoVector(t, b, nil)
		checkNoVector(t, b, make([]byte, len(b.Means)))
		if 0 < b.Parts && b.Parts <= 1000 {
			checkNoVector(t, b, make([]byte, b.Parts))
		}
		for size := range 5 {
			checkNoVector(t, b, make([]byte, size))
		}
	}
}

func TestVectorsOfOtherLengthsAreRefused(t *testing.T) {
	for dim := 1; dim <= api.MaxDim; dim++ {
		for _, parts := range []int{1, (dim + 1) / 2, dim} {
			b := bookOf(samples.FilledCrowd(2, dim, 1), parts)
			for size := range api.MaxDim + 3 {
				if size != dim {
					checkRefused(t, b, samples.Filled(size, 1))
				}
			}
			checkRefused(t, b, samples.Filled(dim+256, 1))
		}
	}
}

func TestDecodeRefusesCodes(t *testing.T) {
	for _, parts := range []int{1, 2, 5, api.MaxDim} {
		for _, words := range []int{1, 2, 63, api.MaxMeans} {
			b := bookOf(samples.Crowd(1, words, api.MaxDim), parts)
			for _, size := range []int{0, parts - 1, parts + 1, 2 * parts, parts + 256} {
				checkNoVector(t, b, make([]byte, size))
			}
			checkNoVector(t, b, nil)
			for p := range parts {
				code := slices.Repeat([]byte{byte(words - 1)}, parts)
				checkVector(t, b, code, plainVector(b, code)...)
				for _, place := range []byte{byte(words), byte(words + 1), 127, 128, 255} {
					code[p] = place
					checkNoVector(t, b, code)
				}
			}
		}
	}
}

// P8.4

func TestTableKnown(t *testing.T) {
	checkTable(t, example(), []int8{9, 1, 1}, []int64{81, 1}, []int64{2, 32})
	checkTable(t, example(), []int8{0, 0, 5}, []int64{0, 100}, []int64{25, 25})
	checkTable(t, api.Book{Parts: 1, Means: [][][]int8{{{-128}, {127}, {0}}}}, []int8{127}, []int64{65025, 0, 16129})
	most := bookOf(samples.FilledCrowd(api.MaxMeans, api.MaxDim, -128), 1)
	checkTable(t, most, samples.Filled(api.MaxDim, 127), slices.Repeat([]int64{65025 * api.MaxDim}, api.MaxMeans))
}

func TestLookKnown(t *testing.T) {
	table := [][]int64{{81, 1}, {2, 32}}
	checkLook(t, table, []byte{1, 0}, 3)
	checkLook(t, table, []byte{0, 1}, 113)
	checkLook(t, table, []byte{0, 0}, 83)
	checkLook(t, table, []byte{1, 1}, 33)
	checkNoLook(t, table, []byte{1, 2})
	checkNoLook(t, table, []byte{2, 1})
	checkNoLook(t, table, []byte{1})
	checkNoLook(t, table, []byte{1, 0, 0})
	checkNoLook(t, table, nil)
}

// A table without lists has the code without bytes; what no list is asked for adds nothing.
func TestLookOfNoLists(t *testing.T) {
	checkLook(t, nil, nil, 0)
	checkLook(t, [][]int64{}, []byte{}, 0)
	checkNoLook(t, nil, []byte{0})
	checkNoLook(t, [][]int64{{}}, []byte{0})
	checkNoLook(t, [][]int64{nil}, []byte{0})
	checkNoLook(t, [][]int64{nil}, nil)
	checkNoLook(t, [][]int64{{1}, nil}, []byte{0, 0})
	checkNoLook(t, [][]int64{nil, {1}}, []byte{0, 0})
}

// Any table may be handed in: of more lists than a vector has parts, of unlike lengths, of any numbers.
func TestLookOfOtherTables(t *testing.T) {
	checkLook(t, [][]int64{{-5}, {1, -2, 3}, {7, 8}}, []byte{0, 1, 1}, 1)
	checkNoLook(t, [][]int64{{-5}, {1, -2, 3}, {7, 8}}, []byte{0, 1, 2})
	long := make([]int64, 1000)
	for i := range long {
		long[i] = int64(i)
	}
	checkLook(t, [][]int64{long, long}, []byte{255, 200}, 455)
	checkNoLook(t, [][]int64{long[:255]}, []byte{255})
	checkLook(t, [][]int64{long[:256]}, []byte{255}, 255)
	many := slices.Repeat([][]int64{{1, 2}}, 3000)
	checkLook(t, many, slices.Repeat([]byte{1}, 3000), 6000)
	checkNoLook(t, many, slices.Repeat([]byte{1}, 2999))
	checkNoLook(t, many, make([]byte, 3000%256))
	checkNoLook(t, many, append(slices.Repeat([]byte{1}, 2999), 2))
}

// What is above 64 bits is lost.
func TestLookGoesRound(t *testing.T) {
	checkLook(t, [][]int64{{math.MaxInt64}, {1}}, []byte{0, 0}, math.MinInt64)
	checkLook(t, [][]int64{{math.MinInt64}, {-1}}, []byte{0, 0}, math.MaxInt64)
	checkLook(t, [][]int64{{math.MinInt64}, {math.MinInt64}, {5}}, []byte{0, 0, 0}, 5)
	checkLook(t, [][]int64{{math.MaxInt64}, {math.MaxInt64}, {2}}, []byte{0, 0, 0}, 0)
	checkLook(t, [][]int64{{math.MaxInt64}}, []byte{0}, math.MaxInt64)
}

// P8.5

// Of all codes none is nearer than a vector's own, and the table tells of each how far it is.
func TestNoCodeIsNearer(t *testing.T) {
	for _, c := range []struct{ dim, parts, words int }{{1, 1, 64}, {3, 2, 5}, {4, 4, 4}, {7, 3, 6}, {9, 1, 9}, {12, 5, 3}, {64, 6, 2}} {
		for seed := range uint64(10) {
			b := bookOf(samples.Crowd(seed, c.words, c.dim), c.parts)
			codes := allCodes(b)
			for _, v := range samples.Crowd(seed+500, 3, c.dim) {
				own, _ := vec.Dist(v, mustVector(t, b, mustCode(t, b, v)))
				for _, code := range codes {
					checkFar(t, b, v, code)
					if far, _ := vec.Dist(v, mustVector(t, b, code)); far < own {
						t.Fatalf("%v: the code %v is at %d, nearer than its own, at %d", v, code, far, own)
					}
				}
			}
		}
	}
}

func TestNoCodeIsNearerAtTheLimits(t *testing.T) {
	draw := samples.Drawer(8)
	for _, parts := range []int{1, 2, 16, api.MaxDim} {
		b := bookOf(samples.Crowd(9, api.MaxMeans, api.MaxDim), parts)
		for range 5 {
			v := samples.Noise(draw(), api.MaxDim)
			table := mustTable(t, b, v)
			own := mustLook(t, table, mustCode(t, b, v))
			for range 100 {
				code := drawnCode(b, draw)
				checkFar(t, b, v, code)
				if far := mustLook(t, table, code); far < own {
					t.Fatalf("%v: the code %v is at %d, nearer than its own, at %d", v, code, far, own)
				}
			}
		}
	}
	ends := bookOf([][]int8{samples.Filled(api.MaxDim, -128)}, api.MaxDim)
	checkLook(t, mustTable(t, ends, samples.Filled(api.MaxDim, 127)), make([]byte, api.MaxDim), 65025*api.MaxDim)
}

// What a code says has that code again, if no two words of a part are the same.
func TestWhatIsDecodedIsEncodedAgain(t *testing.T) {
	l := [][]int8{{1, 2, 3, 4, 5}, {-1, -2, -3, -4, -5}, {100, 100, 100, 100, 100}, {127, -128, 127, -128, 127}}
	for parts := 1; parts <= 5; parts++ {
		b := bookOf(l, parts)
		for _, code := range allCodes(b) {
			checkCode(t, b, mustVector(t, b, code), code...)
		}
	}
}

// R4, R5

// roomyBook makes a book, for vectors of 7 numbers, all of whose lists have spare room, and a function that tells what all of it looks like.
func roomyBook() (b api.Book, look func() api.Book) {
	b = api.Book{Parts: 3, Means: make([][][]int8, 5)}
	var looks []func() [][]int8
	for p, size := range []int{2, 2, 3, 4, 5} {
		words, look := samples.Roomy(uint64(p), 4, size)
		b.Means[p] = words
		looks = append(looks, look)
	}
	all := b.Means
	b.Means = all[:3]
	return b, func() api.Book {
		now := api.Book{Parts: b.Parts}
		for p := range all {
			now.Means = append(now.Means, looks[p](), samples.Copies(all[p]))
		}
		return now
	}
}

func TestArgumentsStayAsTheyAre(t *testing.T) {
	b, bookLook := roomyBook()
	l, vectorsLook := samples.Roomy(9, 20, 7)
	code := []byte{1, 3, 0, 77, 78}
	table, room := [][]int64{{1, 2}, {3, 4, 5, 6}, {7, 8}, {9}}, []int64{1, 2, 3}
	table[0] = room[:2]
	tableAhead := [][]int64{{1, 2}, {3, 4, 5, 6}, {7, 8}, {9}}
	bookAhead, vectorsAhead := bookLook(), vectorsLook()
	for range 2 {
		checkBook(t, b, 7, true)
		mustCode(t, b, l[0])
		mustVector(t, b, code[:3])
		mustTable(t, b, l[1])
		mustLook(t, table[:3], code[:3])
		mustTrain(t, l, 3, 5, 4, 1)
		mustTrain(t, l, 1, 20, 0, 1)
		checkRefused(t, b, l[2][:6])
		checkNoVector(t, b, code)
		checkNoTrain(t, l, 8, 1, 1)
		checkNoTrain(t, l, 2, 21, 1)
	}
	if !sameBook(bookLook(), bookAhead) {
		t.Error("the book is changed")
	}
	if !samples.Same(vectorsLook(), vectorsAhead) {
		t.Error("the vectors are changed")
	}
	if !slices.Equal(code, []byte{1, 3, 0, 77, 78}) || !sameTable(table, tableAhead) || room[2] != 3 {
		t.Errorf("the code and the table are %v, %v", code, table)
	}
}

// What stands in a list's spare room does not count.
func TestSpareRoomDoesNotCount(t *testing.T) {
	b, _ := roomyBook()
	l, _ := samples.Roomy(9, 20, 7)
	for _, v := range l {
		checkAll(t, b, v)
		checkCode(t, copyOf(b), v, mustCode(t, b, v)...)
	}
	checkTrain(t, l, 3, 4, 2, 7, mustTrain(t, samples.Copies(l), 3, 4, 2, 7))
	most, _ := samples.Roomy(3, api.MaxItems, api.MaxDim)
	checkTrain(t, most, 2, 3, 1, 7, mustTrain(t, samples.Copies(most), 2, 3, 1, 7))
	checkNoVector(t, b, []byte{1, 2, 3}[:2])
	checkNoLook(t, [][]int64{[]int64{1, 2}[:1]}, []byte{1})
}

// Whatever is done to an answer, what was handed in stays, and another answer, and the next one is the same.
func TestAnswersShareNoMemory(t *testing.T) {
	b, v, code := example(), []int8{9, 1, 1}, []byte{1, 0}
	l := [][]int8{{1, 2, 3}, {4, 5, 6}, {7, 8, 9}}
	for range 3 {
		checkCode(t, b, v, 1, 0)
		answer := mustCode(t, b, v)
		checkVector(t, b, code, 10, 0, 0)
		decoded := mustVector(t, b, code)
		table := mustTable(t, b, v)
		trained, picked := mustTrain(t, l, 2, 2, 3, 7), mustTrain(t, l, 3, 3, 0, 7)
		answer, decoded = answer[:cap(answer)], decoded[:cap(decoded)]
		for i := range answer {
			answer[i] = 1
		}
		for i := range decoded {
			decoded[i] = 99
		}
		samples.Spoil(table)
		for _, book := range []api.Book{trained, picked} {
			for _, words := range book.Means {
				samples.Spoil(words)
			}
			clear(book.Means[:cap(book.Means)])
		}
		checkTable(t, b, v, []int64{81, 1}, []int64{2, 32})
		checkTrain(t, l, 2, 2, 3, 7, plainBook(l, 2, 2, 3, 7))
		checkTrain(t, l, 3, 3, 0, 7, bookOf(l, 3))
		if !sameBook(b, example()) || !slices.Equal(v, []int8{9, 1, 1}) || !slices.Equal(code, []byte{1, 0}) || !samples.Same(l, [][]int8{{1, 2, 3}, {4, 5, 6}, {7, 8, 9}}) {
			t.Fatalf("what was handed in is %v, %v, %v, %v", b, v, code, l)
		}
	}
}

// What was handed in may be changed: an answer stays.
func TestAnswersKeepNoArgument(t *testing.T) {
	b, v, code := example(), []int8{9, 1, 1}, []byte{1, 0}
	l := [][]int8{{1, 2, 3}, {4, 5, 6}, {7, 8, 9}}
	encoded, decoded, table := mustCode(t, b, v), mustVector(t, b, code), mustTable(t, b, v)
	single := api.Book{Parts: 1, Means: [][][]int8{{{1, 2}, {3, 4}}}}
	whole := mustVector(t, single, []byte{1})
	picked, trained := mustTrain(t, l, 2, 3, 0, 7), mustTrain(t, l, 2, 3, 2, 7)
	for _, words := range append(b.Means, single.Means...) {
		samples.Spoil(words)
	}
	samples.Spoil(l)
	clear(v)
	clear(code)
	if !slices.Equal(encoded, []byte{1, 0}) || !slices.Equal(decoded, []int8{10, 0, 0}) || !sameTable(table, [][]int64{{81, 1}, {2, 32}}) || !slices.Equal(whole, []int8{3, 4}) {
		t.Errorf("%v, %v, %v, %v", encoded, decoded, table, whole)
	}
	want := bookOf([][]int8{{1, 2, 3}, {4, 5, 6}, {7, 8, 9}}, 2)
	if !sameBook(picked, want) || !sameBook(trained, want) {
		t.Errorf("%v, %v", picked, trained)
	}
}

// checkApart: each list of an answer can be changed, its spare room too, without another one.
func checkApart[T int8 | int64](t *testing.T, lists [][]T) {
	t.Helper()
	for i := range lists {
		var others [][]T
		for _, list := range lists {
			others = append(others, slices.Clone(list))
		}
		whole := lists[i][:cap(lists[i])]
		for j := range whole {
			whole[j]++
		}
		others[i] = slices.Clone(lists[i])
		if !slices.EqualFunc(lists, others, slices.Equal[[]T]) {
			t.Errorf("list %d shares memory with another one", i)
		}
	}
}

// Not even where one vector was handed in at several places.
func TestListsOfAnAnswerShareNoMemory(t *testing.T) {
	v := samples.Filled(6, 7)
	twice := [][]int8{v, v, v, v}
	for _, rounds := range []int{0, 3} {
		for _, parts := range []int{1, 3, 6} {
			var all [][]int8
			for _, words := range mustTrain(t, twice, parts, 4, rounds, 7).Means {
				all = append(all, words...)
			}
			checkApart(t, all)
		}
	}
	words := [][]int8{{1}, {2}}
	same := api.Book{Parts: 3, Means: [][][]int8{words, words, words}}
	checkApart(t, mustTable(t, same, []int8{3, 3, 3}))
	checkVector(t, same, []byte{1, 1, 0}, 2, 2, 1)
	if !slices.Equal(v, samples.Filled(6, 7)) || !samples.Same(words, [][]int8{{1}, {2}}) {
		t.Error("what was handed in is changed")
	}
}

// The lists of one book's parts, too, are unlike ones: an append to one stays out of the next.
func TestPartsOfATrainedBookShareNoRoom(t *testing.T) {
	l := samples.Crowd(1, 9, 6)
	b := mustTrain(t, l, 3, 2, 1, 7)
	want := copyOf(b)
	for p := range b.Means {
		grown := append(b.Means[p][:1], []int8{99, 99})
		want.Means[p] = samples.Copies(grown)
		if !sameBook(b, want) {
			t.Fatalf("an append to the part %d changes another one", p)
		}
	}
}

// An answer hangs on what is handed in alone, not on the calls ahead of it.
func TestCallsAheadChangeNothing(t *testing.T) {
	many := samples.Crowd(8, 100, 9)
	for range 3 {
		checkBook(t, example(), 3, true)
		checkCode(t, example(), []int8{9, 1, 1}, 1, 0)
		checkVector(t, example(), []byte{1, 0}, 10, 0, 0)
		checkTable(t, example(), []int8{9, 1, 1}, []int64{81, 1}, []int64{2, 32})
		checkLook(t, [][]int64{{81, 1}, {2, 32}}, []byte{0, 1}, 113)
		checkTrain(t, [][]int8{{1, 2}, {3, 4}}, 2, 1, 1, 5, api.Book{Parts: 2, Means: [][][]int8{{{2}}, {{3}}}})
		other := mustTrain(t, many, 4, 20, 2, 9)
		mustCode(t, other, many[0])
		mustTable(t, other, many[1])
		checkRefused(t, other, nil)
		checkNoVector(t, api.Book{}, nil)
		checkNoTrain(t, nil, 1, 1, 1)
		checkNoLook(t, nil, []byte{1})
	}
}

// plainCheck is the document's words.
func plainCheck(b api.Book, dim int) bool {
	if dim < 1 || dim > api.MaxDim || b.Parts < 1 || b.Parts > dim || len(b.Means) != b.Parts {
		return false
	}
	for p, part := range plainParts(make([]int8, dim), b.Parts) {
		words := b.Means[p]
		if len(words) < 1 || len(words) > api.MaxMeans || len(words) != len(b.Means[0]) {
			return false
		}
		if slices.ContainsFunc(words, func(word []int8) bool { return len(word) != len(part) }) {
			return false
		}
	}
	return true
}

// cutAsDrawn makes a book that may be, or may just not be: now and then a part has a word more, or a word has a number more.
func cutAsDrawn(draw func() uint64) (api.Book, int) {
	dim := int(1 + draw()%(api.MaxDim+2))
	parts := int(1 + draw()%uint64(dim))
	words := int(draw() % 9)
	b := api.Book{Parts: parts, Means: make([][][]int8, parts)}
	for p, part := range plainParts(make([]int8, dim), parts) {
		count := words + int(draw()/200%2)
		for range count {
			b.Means[p] = append(b.Means[p], samples.Noise(draw(), len(part)+int(draw()/250%2)))
		}
	}
	if draw() > 250 {
		b.Parts++
	}
	return b, dim
}

// FuzzCodes makes a book, a vector and a code of bytes, and holds all calls against the plain ones.
func FuzzCodes(f *testing.F) {
	f.Add([]byte{2, 1, 2, 0, 9, 0, 8, 0, 7, 0}, 3)
	f.Add([]byte{63, 40, 8, 1, 2, 3, 4, 5, 6, 7, 8, 9, 10, 11, 12}, 64)
	f.Add([]byte{4, 4, 1}, 5)
	f.Add([]byte{10, 3, 2, 0, 1, 255, 0, 0, 0, 0}, 11)
	f.Fuzz(func(t *testing.T, bytes []byte, other int) {
		draw := samples.Bytes(bytes)
		b, dim := cutAsDrawn(draw)
		checkBook(t, b, other, plainCheck(b, other))
		checkBook(t, b, dim, plainCheck(b, dim))
		v, code := samples.Noise(draw(), dim), make([]byte, len(b.Means))
		if !plainCheck(b, dim) {
			checkRefused(t, b, v)
			if len(v) > 0 && !slices.ContainsFunc(samples.UpTo(api.MaxDim+1), func(n int) bool { return plainCheck(b, n) }) {
				checkNoVector(t, b, code)
			}
			return
		}
		checkAll(t, b, v)
		code = drawnCode(b, draw)
		checkVector(t, b, code, plainVector(b, code)...)
		checkFar(t, b, v, code)
		code[len(code)-1] = byte(draw())
		if int(code[len(code)-1]) >= len(b.Means[0]) {
			checkNoVector(t, b, code)
			checkNoLook(t, plainTable(b, v), code)
		}
	})
}

// FuzzTrain cuts bytes into vectors, and holds a training against the plain one.
func FuzzTrain(f *testing.F) {
	f.Add([]byte{1, 2, 3, 4}, 2, 2, 1, 1, uint64(5))
	f.Add([]byte{1, 2, 3, 4, 255, 254, 128, 127, 9}, 3, 2, 2, 3, uint64(math.MaxUint64))
	f.Add([]byte{5, 5, 5, 5}, 1, 1, 2, 100, uint64(0))
	f.Fuzz(func(t *testing.T, b []byte, dim, parts, words, rounds int, seed uint64) {
		if dim < 1 || dim > api.MaxDim || len(b) > 100*dim {
			return
		}
		l := samples.Cut(b, dim)
		if parts < 1 || parts > dim || words < 1 || words > min(len(l), api.MaxMeans) || rounds < 0 || rounds > api.MaxRounds {
			checkNoTrain(t, l, parts, words, rounds)
			return
		}
		checkTrain(t, l, parts, words, rounds, seed, plainBook(l, parts, words, rounds, seed))
	})
}

func BenchmarkEncode(b *testing.B) {
	book := bookOf(samples.Crowd(1, api.MaxMeans, api.MaxDim), 8)
	v := samples.Noise(2, api.MaxDim)
	for b.Loop() {
		pq.Encode(book, v)
	}
}

func BenchmarkLook(b *testing.B) {
	table := slices.Repeat([][]int64{make([]int64, api.MaxMeans)}, 8)
	code := make([]byte, 8)
	for b.Loop() {
		pq.Look(table, code)
	}
}

func BenchmarkTrain(b *testing.B) {
	l := samples.Crowd(1, api.MaxItems, api.MaxDim)
	for b.Loop() {
		pq.Train(l, 8, api.MaxMeans, api.MaxRounds, 1)
	}
}
