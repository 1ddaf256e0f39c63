package samples_test

import (
	"testing"

	"lodestone/api"
	"lodestone/samples"
)

// Graphs that the document's chapters mend, and one for each rule.
func TestMend(t *testing.T) {
	for _, c := range []struct {
		g            api.Graph
		degree       int
		want         [][]int
		room, noRoom int
	}{
		{api.Graph{}, 1, nil, 0, 0},
		{samples.Linked(0, nil), 1, [][]int{nil}, 0, 0},
		{samples.Joined(samples.OnLine(0, 4, 9, 10), []int{1}, []int{2}), 2, [][]int{{1}, {2}, {3}, nil}, 1, 0},
		{samples.Joined(samples.OnLine(0, 9, -5), []int{2}, []int{0}, []int{0}), 1, [][]int{{2}, {0}, {1}}, 0, 1},
		{samples.OnLine(0, 20, 19, -30, 18), 1, [][]int{{1}, {2}, {3}, {4}, nil}, 4, 0},
		{samples.OnLine(0, 20, 19, -30, 18), 2, [][]int{{1, 3}, {2}, {4}, nil, nil}, 4, 0},
		// As far: the ID that is less gets it, and the one that is greater goes.
		{samples.Joined(samples.OnLine(3, 1, 5, 3), []int{1, 2}, []int{0}, []int{0}), 2, [][]int{{1, 2}, {0, 3}, {0}, nil}, 1, 0},
		{samples.Joined(samples.OnLine(3, 5, 1, 3), []int{1, 2}, []int{0, 2}, []int{1, 0}, []int{0, 1}), 2, [][]int{{1, 2}, {0, 3}, {1, 0}, {0, 1}}, 0, 1},
		{samples.Joined(samples.OnLine(0, -5, 9, 5, 1), []int{4, 2}, []int{0, 2}, []int{3, 1}, []int{0, 2}, []int{1, 3}), 2, [][]int{{4, 2}, {0, 2}, {3, 1}, {0, 2}, {1, 3}}, 0, 0},
	} {
		g := samples.CopyGraph(c.g)
		s := samples.WideSetup(1)
		s.Degree = c.degree
		room, noRoom := samples.Mend(g, s)
		if !samples.SameGraph(g, samples.Joined(samples.CopyGraph(c.g), c.want...)) || room != c.room || noRoom != c.noRoom {
			t.Errorf("%v is mended: %v, %d, %d; want %v, %d, %d", c.g, g, room, noRoom, c.want, c.room, c.noRoom)
		}
	}
}
