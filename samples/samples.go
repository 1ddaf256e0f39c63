// Package samples makes inputs for the tests of the layers, and mends graphs as plainly as the document's words say it, for answers to be held against; the layers themselves don't call it.
package samples

import "slices"

// Drawer hands out numbers without a pattern, below 2^31, the same ones for the same seed.
func Drawer(seed uint64) func() uint64 {
	x := seed
	return func() uint64 {
		x = x*6364136223846793005 + 1442695040888963407
		return x >> 33
	}
}

// Bytes hands out the bytes, one by one, and then 0.
func Bytes(b []byte) func() uint64 {
	at := 0
	return func() uint64 {
		if at == len(b) {
			return 0
		}
		at++
		return uint64(b[at-1])
	}
}

// Orders calls f with each order of the list. What f is given holds until it ends; the list stays as it was.
func Orders[T any](list []T, f func([]T)) {
	l := append([]T(nil), list...)
	var put func(int)
	put = func(from int) {
		if from == len(l) {
			f(l)
			return
		}
		for i := from; i < len(l); i++ {
			l[from], l[i] = l[i], l[from]
			put(from + 1)
			l[from], l[i] = l[i], l[from]
		}
	}
	put(0)
}

// UpTo makes a list of the numbers from 0 to below n.
func UpTo(n int) []int {
	var l []int
	for i := range n {
		l = append(l, i)
	}
	return l
}

// Subsets calls f with each list of numbers below n, rising.
func Subsets(n int, f func([]int)) {
	for bits := range 1 << n {
		var list []int
		for i := range n {
			if bits>>i&1 == 1 {
				list = append(list, i)
			}
		}
		f(list)
	}
}

// Noise makes a vector of so many numbers without a pattern, the same one for the same seed.
func Noise(seed uint64, size int) []int8 {
	draw := Drawer(seed)
	v := make([]int8, size)
	for i := range v {
		v[i] = int8(draw())
	}
	return v
}

// Crowd makes so many vectors as Noise does, each from a seed of its own.
func Crowd(seed uint64, count, size int) [][]int8 {
	l := make([][]int8, count)
	for i := range l {
		l[i] = Noise(seed+uint64(1000*i), size)
	}
	return l
}

// Filled makes a vector that has the number so many times.
func Filled(size int, n int8) []int8 { return slices.Repeat([]int8{n}, size) }

// FilledCrowd makes so many vectors as Filled does.
func FilledCrowd(count, size int, n int8) [][]int8 {
	l := make([][]int8, count)
	for i := range l {
		l[i] = Filled(size, n)
	}
	return l
}

// Line makes vectors of one number each.
func Line(list ...int8) [][]int8 {
	var l [][]int8
	for _, n := range list {
		l = append(l, []int8{n})
	}
	return l
}

// Cut makes vectors of the bytes, of so many each; what is left over at the end is left out.
func Cut(b []byte, size int) [][]int8 {
	var l [][]int8
	for part := range slices.Chunk(b[:len(b)-len(b)%size], size) {
		v := make([]int8, size)
		for i, c := range part {
			v[i] = int8(c)
		}
		l = append(l, v)
	}
	return l
}

// Same says whether two lists have the same vectors, in order.
func Same(a, b [][]int8) bool { return slices.EqualFunc(a, b, slices.Equal[[]int8]) }

// Copies makes a copy of each vector.
func Copies(l [][]int8) [][]int8 {
	var copies [][]int8
	for _, v := range l {
		copies = append(copies, slices.Clone(v))
	}
	return copies
}

// Roomy makes so many vectors as Crowd does, in a list with spare room, each with spare room, and a function that tells what all of it looks like: if any of it is changed, it tells something else.
func Roomy(seed uint64, count, size int) (list [][]int8, look func() [][]int8) {
	whole := Crowd(seed, count+3, size+4)
	all := slices.Clone(whole)
	for i := range count {
		all[i] = whole[i][:size]
	}
	return all[:count], func() [][]int8 {
		now := Copies(whole)
		for i, v := range all {
			now = append(now, []int8{int8(len(v))})
			if len(v) == 0 || &v[0] != &whole[i][0] {
				now = append(now, nil)
			}
		}
		return now
	}
}

// Spoil writes over all that the lists have, their spare room too, and takes them out of theirs.
func Spoil[T int8 | int64](lists [][]T) {
	for _, list := range lists[:cap(lists)] {
		list = list[:cap(list)]
		for i := range list {
			list[i] = 99
		}
	}
	clear(lists[:cap(lists)])
}
