package build_test

import (
	"testing"

	"lodestone/api"
	"lodestone/samples"
)

// Graphs in which another reading of a rule of mending leads to another graph; reckoned outside the program.
func TestMendByEachRule(t *testing.T) {
	for _, c := range []struct {
		name  string
		nodes []api.Item
		outs  [][]int
		start int
		s     api.Setup
		x     api.Item
		want  [][]int
	}{
		{"the first node that is not reached is led to first",
			[]api.Item{item(9, -1), item(1, -6), item(7, -2)}, [][]int{{2}, nil, {0}}, 0,
			setup(1, 1, 1, 1, 1), item(4, -1), [][]int{{3}, {2}, {0}, {1}}},
		{"it becomes the last neighbour",
			[]api.Item{item(7, 8), item(8, -1)}, [][]int{nil, {0}}, 0,
			setup(1, 2, 1, 1, 1), item(1, 1), [][]int{{2}, {0}, {0, 1}}},
		{"of those that have room, and are as near, the one whose ID is less gets it",
			[]api.Item{item(5, -2), item(4, -6)}, [][]int{{1}, nil}, 1,
			setup(1, 2, 4, 1, 1), item(1, -6), [][]int{{1}, {2}, {1, 0}}},
		{"a way is the one by which a node is come to first, in the order in which nodes are come to; of the others the farthest goes",
			[]api.Item{item(6, -3), item(1, -5), item(3, 0)}, [][]int{{2}, {2}, {0, 1}}, 0,
			setup(1, 2, 1, 9, 1), item(2, 0), [][]int{{2, 3}, {2}, {3, 0}, {2, 1}}},
		{"of those that are as far, the one whose ID is greater goes",
			[]api.Item{item(9, -2), item(2, 5), item(3, 3)}, [][]int{{2, 1}, {0, 2}, {0}}, 0,
			setup(1, 2, 4, 9, 1), item(1, -2), [][]int{{3, 2}, {0, 2}, {3, 1}, {0, 2}}},
	} {
		t.Run(c.name, func(t *testing.T) {
			g := samples.Joined(samples.Bare(c.nodes...), c.outs...)
			g.Start = c.start
			checkJoined(t, g, c.s, c.x, c.want...)
		})
	}
}

// Nodes without neighbours: the first ones are led to from where there is room, and these have room themselves then.
func TestMendLeadsToEachNode(t *testing.T) {
	g := samples.OnLine(0, 20, 19, -30, 18)
	checkJoined(t, g, setup(1, 1, 4, 1, 1), item(9, 1), []int{5}, []int{2}, []int{3}, []int{4}, nil, []int{1})
	checkJoined(t, g, setup(1, 2, 4, 1, 1), item(9, 1), []int{5, 3}, []int{2}, []int{4}, nil, nil, []int{0, 1})
	for degree := 1; degree <= api.MaxDegree; degree++ {
		for _, s := range samples.Setups(2, min(degree, api.MaxDegree-2)) {
			g, x := ruled(60, 0, degree)
			checkInsert(t, g, s, x, plainInsert(g, s, x))
		}
	}
}

// All nodes that are reached have as many neighbours as they may, so each lost one, which leads back to them, takes the place of another neighbour.
func TestMendMakesRoom(t *testing.T) {
	for degree := 1; degree <= 8; degree++ {
		g := samples.Ruled(40)
		for place := range g.Nodes {
			g.Nodes[place].Out = nil
			for next := range degree + 1 {
				if next != place && len(g.Nodes[place].Out) < degree {
					g.Nodes[place].Out = append(g.Nodes[place].Out, next)
				}
			}
		}
		for _, x := range []api.Item{item(98, 127, 127), item(98, -60, -50)} {
			s := setup(2, degree, 9, 1000, 1)
			checkInsert(t, g, s, x, plainInsert(g, s, x))
			if room, noRoom := samples.Mend(plainJoin(g, s, x), s); noRoom < 20 {
				t.Errorf("degree %d: there was room %d times, and none %d times", degree, room, noRoom)
			}
		}
	}
}

// A graph each of whose nodes is reached is not mended: a node that has room keeps it.
func TestMendLeavesWhatIsReached(t *testing.T) {
	g := samples.Joined(samples.OnLine(0, 50, 100), []int{1}, []int{2}, nil)
	checkJoined(t, g, setup(1, 3, 1, 1, 1), item(9, 1), []int{1, 3}, []int{2}, nil, []int{0})
	checkJoined(t, g, setup(1, 3, 9, 1, 1), item(9, 101), []int{1}, []int{2}, []int{3}, []int{2})
}
