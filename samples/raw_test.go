package samples_test

import (
	"slices"
	"testing"

	"lodestone/samples"
)

func TestRaw(t *testing.T) {
	for _, size := range []int{0, 1, 512, 10000} {
		a, b, c := samples.Raw(1, size), samples.Raw(1, size), samples.Raw(2, size)
		if len(a) != size || !slices.Equal(a, b) || size > 1 && slices.Equal(a, c) {
			t.Errorf("%d bytes", size)
		}
	}
	if b := samples.Raw(1, 10000); slices.Min(b) != 0 || slices.Max(b) != 255 {
		t.Errorf("from %d to %d", slices.Min(b), slices.Max(b))
	}
}

// Whatever is changed is told.
func TestRoomyRaw(t *testing.T) {
	for at := range 112 {
		b, same := samples.RoomyRaw(3, 12)
		if !slices.Equal(b, samples.Raw(3, 112)[:12]) || cap(b) != 112 || !same() {
			t.Fatalf("%v", b)
		}
		b[:112][at]++
		if same() {
			t.Errorf("the byte %d", at)
		}
	}
}

func TestSpoilRaw(t *testing.T) {
	whole := samples.Raw(4, 20)
	samples.SpoilRaw(whole[:7])
	for i, c := range samples.Raw(4, 20) {
		if whole[i] == c {
			t.Errorf("the byte %d", i)
		}
	}
	samples.SpoilRaw(nil)
}
