package mending_test

import (
	"slices"
	"testing"

	"lodestone/api"
	"lodestone/mending"
	"lodestone/prune"
	"lodestone/samples"
)

// Keep tells what prune.Keep does, also of places that stand there twice, and of the node's own; it keeps no list, and changes none.
func TestKeepIsPrunesKeep(t *testing.T) {
	for seed := range uint64(200) {
		draw := samples.Drawer(seed)
		dim, count := 1+int(draw()%4), 1+int(draw()%30)
		g := samples.Web(seed, count, dim, 2)
		at, room := int(draw())%count, make([]int, draw()%40)
		for i := range room {
			room[i] = int(draw()) % count
		}
		places, given := room[:len(room)/2], slices.Clone(room)
		for _, s := range samples.Setups(dim, 2) {
			want, e := prune.Keep(g, s, at, places)
			kept := mending.Keep(g, s, at, places)
			if e != api.OK || !slices.Equal(kept, want) || !slices.Equal(room, given) {
				t.Errorf("Keep(%v, %+v, %d, %v) = %v; want %v", g, s, at, places, kept, want)
			}
			clear(kept[:cap(kept)])
			if again := mending.Keep(g, s, at, places); !slices.Equal(again, want) || !slices.Equal(room, given) {
				t.Errorf("%v; want %v", again, want)
			}
		}
	}
}

// A graph is mended in place, as the document's words say it.
func TestMend(t *testing.T) {
	for seed := range uint64(200) {
		degree := 1 + int(seed%4)
		for _, s := range samples.Setups(2, degree) {
			g, want := samples.Web(seed, int(seed%30), 2, degree), samples.Web(seed, int(seed%30), 2, degree)
			mending.Mend(g, s)
			samples.Mend(want, s)
			if !samples.SameGraph(g, want) {
				t.Errorf("%+v: %v; want %v", s, g, want)
			}
		}
	}
}
