package samples_test

import (
	"slices"
	"testing"

	"lodestone/samples"
)

func TestDrawer(t *testing.T) {
	a, b, c := samples.Drawer(1), samples.Drawer(1), samples.Drawer(2)
	seen := map[uint64]bool{}
	unlike := false
	for range 1000 {
		n := a()
		if n >= 1<<31 || seen[n] || b() != n {
			t.Fatalf("%d", n)
		}
		seen[n] = true
		unlike = unlike || c() != n
	}
	if !unlike {
		t.Error("two seeds draw the same")
	}
}

func TestBytes(t *testing.T) {
	draw := samples.Bytes([]byte{7, 0, 255})
	for _, want := range []uint64{7, 0, 255, 0, 0} {
		if n := draw(); n != want {
			t.Errorf("%d; want %d", n, want)
		}
	}
}

func TestOrders(t *testing.T) {
	l := []int{1, 2, 3, 4}
	seen := map[[4]int]int{}
	samples.Orders(l, func(order []int) {
		if sorted := slices.Sorted(slices.Values(order)); !slices.Equal(sorted, l) {
			t.Errorf("%v", order)
		}
		seen[[4]int(order)]++
	})
	if len(seen) != 24 || !slices.Equal(l, []int{1, 2, 3, 4}) {
		t.Errorf("%d orders of %v", len(seen), l)
	}
}

func TestUpTo(t *testing.T) {
	for n, want := range map[int][]int{0: nil, 1: {0}, 4: {0, 1, 2, 3}} {
		if l := samples.UpTo(n); !slices.Equal(l, want) {
			t.Errorf("UpTo(%d) = %v", n, l)
		}
	}
}

func TestNoise(t *testing.T) {
	for _, size := range []int{0, 1, 64, 1000} {
		a, b := samples.Noise(1, size), samples.Noise(1, size)
		if len(a) != size || !slices.Equal(a, b) {
			t.Errorf("%v, %v", a, b)
		}
	}
	if v := samples.Noise(1, 10000); slices.Min(v) != -128 || slices.Max(v) != 127 {
		t.Errorf("from %d to %d", slices.Min(v), slices.Max(v))
	}
}

func sameVectors(a, b [][]int8) bool { return slices.EqualFunc(a, b, slices.Equal[[]int8]) }

func TestCrowd(t *testing.T) {
	want := [][]int8{samples.Noise(5, 9), samples.Noise(1005, 9), samples.Noise(2005, 9)}
	if l := samples.Crowd(5, 3, 9); !sameVectors(l, want) || slices.Equal(l[0], l[1]) {
		t.Errorf("%v", l)
	}
}

func TestFilled(t *testing.T) {
	if v := samples.Filled(3, -7); !slices.Equal(v, []int8{-7, -7, -7}) {
		t.Errorf("%v", v)
	}
	l := samples.FilledCrowd(2, 2, 4)
	l[0][0] = 5
	if !sameVectors(l, [][]int8{{5, 4}, {4, 4}}) {
		t.Errorf("%v", l)
	}
}

func TestLine(t *testing.T) {
	if l := samples.Line(1, -2, 3); !sameVectors(l, [][]int8{{1}, {-2}, {3}}) || samples.Line() != nil {
		t.Errorf("%v", l)
	}
}
