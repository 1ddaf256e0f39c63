package samples_test

import (
	"slices"
	"testing"

	"lodestone/samples"
)

func TestDrawer(t *testing.T) {
	a, b, c := samples.Drawer(1), samples.Drawer(1), samples.Drawer(2)
	seen := map[uint64]bool{}
	unlike := false
	for range 1000 {
		n := a()
		if n >= 1<<31 || seen[n] || b() != n {
			t.Fatalf("%d", n)
		}
		seen[n] = true
		unlike = unlike || c() != n
	}
	if !unlike {
		t.Error("two seeds draw the same")
	}
}

func TestBytes(t *testing.T) {
	draw := samples.Bytes([]byte{7, 0, 255})
	for _, want := range []uint64{7, 0, 255, 0, 0} {
		if n := draw(); n != want {
			t.Errorf("%d; want %d", n, want)
		}
	}
}

func TestOrders(t *testing.T) {
	l := []int{1, 2, 3, 4}
	seen := map[[4]int]int{}
	samples.Orders(l, func(order []int) {
		if sorted := slices.Sorted(slices.Values(order)); !slices.Equal(sorted, l) {
			t.Errorf("%v", order)
		}
		seen[[4]int(order)]++
	})
	if len(seen) != 24 || !slices.Equal(l, []int{1, 2, 3, 4}) {
		t.Errorf("%d orders of %v", len(seen), l)
	}
}

func TestUpTo(t *testing.T) {
	for n, want := range map[int][]int{0: nil, 1: {0}, 4: {0, 1, 2, 3}} {
		if l := samples.UpTo(n); !slices.Equal(l, want) {
			t.Errorf("UpTo(%d) = %v", n, l)
		}
	}
}

func TestSubsets(t *testing.T) {
	var all [][]int
	samples.Subsets(3, func(list []int) { all = append(all, list) })
	want := [][]int{nil, {0}, {1}, {0, 1}, {2}, {0, 2}, {1, 2}, {0, 1, 2}}
	if !slices.EqualFunc(all, want, slices.Equal[[]int]) {
		t.Errorf("%v", all)
	}
}

func TestNoise(t *testing.T) {
	for _, size := range []int{0, 1, 64, 1000} {
		a, b := samples.Noise(1, size), samples.Noise(1, size)
		if len(a) != size || !slices.Equal(a, b) {
			t.Errorf("%v, %v", a, b)
		}
	}
	if v := samples.Noise(1, 10000); slices.Min(v) != -128 || slices.Max(v) != 127 {
		t.Errorf("from %d to %d", slices.Min(v), slices.Max(v))
	}
}

func TestCrowd(t *testing.T) {
	want := [][]int8{samples.Noise(5, 9), samples.Noise(1005, 9), samples.Noise(2005, 9)}
	if l := samples.Crowd(5, 3, 9); !samples.Same(l, want) || slices.Equal(l[0], l[1]) {
		t.Errorf("%v", l)
	}
}

func TestFilled(t *testing.T) {
	if v := samples.Filled(3, -7); !slices.Equal(v, []int8{-7, -7, -7}) {
		t.Errorf("%v", v)
	}
	l := samples.FilledCrowd(2, 2, 4)
	l[0][0] = 5
	if !samples.Same(l, [][]int8{{5, 4}, {4, 4}}) {
		t.Errorf("%v", l)
	}
}

func TestLine(t *testing.T) {
	if l := samples.Line(1, -2, 3); !samples.Same(l, [][]int8{{1}, {-2}, {3}}) || samples.Line() != nil {
		t.Errorf("%v", l)
	}
}

func TestCut(t *testing.T) {
	b := []byte{1, 255, 127, 128, 5}
	for size, want := range map[int][][]int8{1: {{1}, {-1}, {127}, {-128}, {5}}, 2: {{1, -1}, {127, -128}}, 5: {{1, -1, 127, -128, 5}}, 6: nil} {
		if l := samples.Cut(b, size); !samples.Same(l, want) {
			t.Errorf("Cut(%d) = %v", size, l)
		}
	}
}

func TestSame(t *testing.T) {
	for _, l := range [][][]int8{{{1, 2}, {4}}, {{1, 2}}, {{1, 2}, {3}, {4}}, {{3}, {1, 2}}, {{1, 2}, {3, 4}}, {{1, 2}, nil}, nil} {
		if samples.Same(l, [][]int8{{1, 2}, {3}}) || samples.Same([][]int8{{1, 2}, {3}}, l) {
			t.Errorf("%v", l)
		}
	}
	if !samples.Same([][]int8{{1, 2}, {}}, [][]int8{{1, 2}, nil}) || !samples.Same(nil, [][]int8{}) {
		t.Error("the same vectors")
	}
}

func TestCopies(t *testing.T) {
	l := [][]int8{{1, 2}, {3}}
	copies := samples.Copies(l)
	l[0][0] = 9
	if !samples.Same(copies, [][]int8{{1, 2}, {3}}) || samples.Copies(nil) != nil {
		t.Errorf("%v", copies)
	}
}

// Whatever is changed is told.
func TestRoomy(t *testing.T) {
	for name, change := range map[string]func(l [][]int8){
		"a number":              func(l [][]int8) { l[1][2]++ },
		"a vector's spare room": func(l [][]int8) { l[1][:4][3]++ },
		"a shorter vector":      func(l [][]int8) { l[1] = l[1][:2] },
		"no vector":             func(l [][]int8) { l[0] = nil },
		"another vector":        func(l [][]int8) { l[1] = slices.Clone(l[1]) },
		"the list's spare room": func(l [][]int8) { l[:3][2] = l[0] },
	} {
		l, look := samples.Roomy(1, 2, 3)
		ahead := look()
		if !samples.Same(look(), ahead) || len(l) != 2 || len(l[1]) != 3 || cap(l) == 2 || cap(l[1]) == 3 {
			t.Fatalf("%v", l)
		}
		change(l)
		if samples.Same(look(), ahead) {
			t.Errorf("%s is changed, and not told", name)
		}
	}
}

func TestSpoil(t *testing.T) {
	v, w := []int8{1, 2, 3}, []int8{4}
	l := [][]int8{v[:2], w}
	samples.Spoil(l[:1])
	if !slices.Equal(v, samples.Filled(3, 99)) || w[0] != 99 || l[0] != nil || l[1] != nil {
		t.Errorf("%v, %v, %v", v, w, l)
	}
}
