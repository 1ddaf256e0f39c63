package samples_test

import (
	"slices"
	"testing"

	"lodestone/samples"
)

func TestDrawer(t *testing.T) {
	a, b, c := samples.Drawer(1), samples.Drawer(1), samples.Drawer(2)
	seen := map[uint64]bool{}
	unlike := false
	for range 1000 {
		n := a()
		if n >= 1<<31 || seen[n] || b() != n {
			t.Fatalf("%d", n)
		}
		seen[n] = true
		unlike = unlike || c() != n
	}
	if !unlike {
		t.Error("two seeds draw the same")
	}
}

func TestBytes(t *testing.T) {
	draw := samples.Bytes([]byte{7, 0, 255})
	for _, want := range []uint64{7, 0, 255, 0, 0} {
		if n := draw(); n != want {
			t.Errorf("%d; want %d", n, want)
		}
	}
}

func TestOrders(t *testing.T) {
	l := []int{1, 2, 3, 4}
	seen := map[[4]int]int{}
	samples.Orders(l, func(order []int) {
		if sorted := slices.Sorted(slices.Values(order)); !slices.Equal(sorted, l) {
			t.Errorf("%v", order)
		}
		seen[[4]int(order)]++
	})
	if len(seen) != 24 || !slices.Equal(l, []int{1, 2, 3, 4}) {
		t.Errorf("%d orders of %v", len(seen), l)
	}
}

func TestUpTo(t *testing.T) {
	for n, want := range map[int][]int{0: nil, 1: {0}, 4: {0, 1, 2, 3}} {
		if l := samples.UpTo(n); !slices.Equal(l, want) {
			t.Errorf("UpTo(%d) = %v", n, l)
		}
	}
}
