// Package samples makes inputs for the tests of the layers; the layers themselves don't call it.
package samples

// Drawer hands out numbers without a pattern, below 2^31, the same ones for the same seed.
func Drawer(seed uint64) func() uint64 {
	x := seed
	return func() uint64 {
		x = x*6364136223846793005 + 1442695040888963407
		return x >> 33
	}
}

// Bytes hands out the bytes, one by one, and then 0.
func Bytes(b []byte) func() uint64 {
	at := 0
	return func() uint64 {
		if at == len(b) {
			return 0
		}
		at++
		return uint64(b[at-1])
	}
}

// Orders calls f with each order of the list. What f is given holds until it ends; the list stays as it was.
func Orders[T any](list []T, f func([]T)) {
	l := append([]T(nil), list...)
	var put func(int)
	put = func(from int) {
		if from == len(l) {
			f(l)
			return
		}
		for i := from; i < len(l); i++ {
			l[from], l[i] = l[i], l[from]
			put(from + 1)
			l[from], l[i] = l[i], l[from]
		}
	}
	put(0)
}

// UpTo makes a list of the numbers from 0 to below n.
func UpTo(n int) []int {
	var l []int
	for i := range n {
		l = append(l, i)
	}
	return l
}
