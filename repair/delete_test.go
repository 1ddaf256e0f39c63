package repair_test

import (
	"math"
	"slices"
	"testing"

	"lodestone/api"
	"lodestone/graph"
	"lodestone/prune"
	"lodestone/repair"
	"lodestone/samples"
)

// idsAt are the IDs of the nodes at the places.
func idsAt(g api.Graph, places ...int) []uint64 {
	var ids []uint64
	for _, place := range places {
		ids = append(ids, g.Nodes[place].ID)
	}
	return ids
}

// everyOther are the IDs of every other node.
func everyOther(g api.Graph) []uint64 {
	var ids []uint64
	for place := 0; place < len(g.Nodes); place += 2 {
		ids = append(ids, g.Nodes[place].ID)
	}
	return ids
}

// plainDelete is the document's words; prune.Keep is asked of the whole graph.
func plainDelete(g api.Graph, s api.Setup, ids []uint64) api.Graph {
	left := samples.CopyGraph(g)
	goes := func(place int) bool { return slices.Contains(ids, g.Nodes[place].ID) }
	var gone []int
	for place, node := range g.Nodes {
		if goes(place) {
			gone = append(gone, place)
			continue
		}
		var places []int
		for _, next := range node.Out {
			if goes(next) {
				places = append(places, g.Nodes[next].Out...)
			} else {
				places = append(places, next)
			}
		}
		if slices.ContainsFunc(node.Out, goes) {
			left.Nodes[place].Out, _ = prune.Keep(g, s, place, slices.DeleteFunc(places, goes))
		}
	}
	left, _ = graph.Drop(left, gone)
	samples.Mend(left, s)
	return left
}

func mustDelete(t *testing.T, g api.Graph, s api.Setup, ids []uint64) api.Graph {
	t.Helper()
	left, e := repair.Delete(g, s, ids)
	if e != api.OK {
		t.Fatalf("Delete(%v (%d nodes), %+v, %d): %d", samples.TellGraph(g), len(g.Nodes), s, ids, e)
	}
	return left
}

func checkDelete(t *testing.T, g api.Graph, s api.Setup, ids []uint64, want api.Graph) {
	t.Helper()
	left := mustDelete(t, g, s, ids)
	if !samples.SameGraph(left, want) {
		t.Errorf("Delete(%v (%d nodes), %+v, %d) = %v; want %v", samples.TellGraph(g), len(g.Nodes), s, ids, samples.TellGraph(left), samples.TellGraph(want))
	}
	checkLeft(t, g, s, ids, left)
}

// checkLeft: what follows of a graph from which the nodes with the IDs went.
func checkLeft(t *testing.T, g api.Graph, s api.Setup, ids []uint64, left api.Graph) {
	t.Helper()
	var l []api.Item
	start := 0
	for place, x := range samples.Items(g) {
		if slices.Contains(ids, x.ID) {
			continue
		}
		if place == g.Start {
			start = len(l)
		}
		l = append(l, x)
	}
	checkFollows(t, left, s, l, start)
}

// checkDeleted: the nodes at the places go, and then those that stay have these neighbours.
func checkDeleted(t *testing.T, g api.Graph, s api.Setup, places []int, start int, outs ...[]int) {
	t.Helper()
	left, _ := graph.Drop(g, places)
	want := samples.Joined(left, outs...)
	want.Start = start
	if len(outs) != len(left.Nodes) {
		t.Fatalf("%d nodes are left; want %d", len(left.Nodes), len(outs))
	}
	samples.Orders(places[:min(len(places), 3)], func(l []int) {
		checkDelete(t, g, s, idsAt(g, append(slices.Clone(l), places[len(l):]...)...), want)
	})
}

func checkNoDelete(t *testing.T, g api.Graph, s api.Setup, ids []uint64, want api.Errno) {
	t.Helper()
	if left, e := repair.Delete(g, s, ids); len(left.Nodes) != 0 || left.Start != 0 || e != want {
		t.Errorf("Delete(%v (%d nodes), %+v, %d) = %v, %d; want %d", samples.TellGraph(g), len(g.Nodes), s, ids[:min(len(ids), 20)], samples.TellGraph(left), e, want)
	}
}

// P13.2

func TestDeleteKnown(t *testing.T) {
	g, s := example(), exampleSetup()
	checkDeleted(t, g, s, []int{1}, 0, []int{1}, []int{2}, nil)
	checkDeleted(t, g, s, []int{0}, 0, []int{1}, []int{2}, nil)
	checkDeleted(t, g, s, nil, 0, []int{1}, []int{2}, []int{3}, nil)
	checkDeleted(t, g, s, []int{0, 1, 2, 3}, 0)
	checkDeleted(t, g, s, []int{3}, 0, []int{1}, []int{2}, nil)
	checkDeleted(t, g, s, []int{0, 1, 3}, 0, nil)
	checkNoDelete(t, g, s, []uint64{5}, api.ErrNone)
	checkNoDelete(t, g, s, []uint64{1, 1}, api.ErrArg)
	checkDeleted(t, api.Graph{}, s, nil, 0)
	checkDelete(t, api.Graph{}, s, []uint64{}, api.Graph{})
	checkNoDelete(t, api.Graph{}, s, []uint64{1}, api.ErrNone)
	checkNoDelete(t, api.Graph{}, s, []uint64{1, 1}, api.ErrArg)
}

// Numbers reckoned outside the program.
func TestDeleteReckonedOutside(t *testing.T) {
	for _, c := range []struct {
		count, degree, start int
		s                    api.Setup
		places               []int
		newStart             int
		want                 [][]int
	}{
		{7, 2, 0, setup(2, 2, 1, 1, 1), []int{3}, 0, [][]int{{1}, {3, 4}, {4, 3}, {4, 5}, {3, 2}, {4}}},
		{7, 2, 0, setup(2, 2, 1, 1, 1), []int{0}, 0, [][]int{{2, 5}, {2}, {3, 4}, {2, 5}, {2, 1}, {2, 4}}},
		{7, 2, 4, setup(2, 2, 1, 1, 1), []int{4}, 0, [][]int{{3, 1}, {3, 5}, {3, 0}, {4, 2}, {3, 0}, {3, 4}}},
		{8, 3, 5, setup(2, 3, 1, 2, 1), []int{1, 5}, 0, [][]int{{4}, {2, 5, 4}, {1, 4, 0}, {5, 0, 2}, {5, 1}, {3, 4}}},
		{8, 3, 2, setup(2, 4, 1, 6, 5), []int{0, 7}, 1, [][]int{{1, 5, 2}, {0, 4, 5}, {5, 0}, {0, 2}, {5, 3}, {4, 1, 3}}},
		{9, 1, 4, setup(2, 1, 1, 1, 1), []int{6, 2}, 3, [][]int{{2}, {4}, {1}, {0}, {6}, {2}, {5}}},
		{9, 2, 7, setup(2, 2, 1, 1000, 1), []int{1, 3, 7}, 0, [][]int{{4, 1}, {4, 5}, {0, 1}, {1, 0}, {1, 0}, {3, 2}}},
		{9, 4, 8, setup(2, 4, 1, 3, 2), []int{0, 2, 4, 6}, 4, [][]int{{4, 2, 3}, {0}, {1, 0}, {0, 2, 1}, {0, 2}}},
		{12, 2, 5, setup(2, 2, 1, 1, 1), []int{11, 5, 0}, 0, [][]int{{8, 4}, {7, 2}, {8, 3}, {5, 7}, {7, 0}, {3, 6}, {7, 4}, {4, 8}, {7, 1}}},
		{12, 3, 3, setup(2, 3, 1, 6, 5), []int{1, 2, 9, 10}, 1, [][]int{{6}, {3}, {5}, {4, 7, 0}, {3, 0}, {2, 4, 3}, {0, 4, 2}, {6, 4, 3}}},
		{12, 4, 1, setup(2, 4, 1, 1000, 1), []int{2, 3, 4, 5, 6, 7}, 1, [][]int{{2, 1, 3, 4}, {0, 3, 5, 4}, {5, 3, 0}, {1, 5, 4, 0}, {3, 1, 0}, {3, 1, 2, 0}}},
		{12, 4, 1, setup(2, 32, 1, 1000, 1), []int{1, 3, 5, 7}, 0, [][]int{{4, 5, 3, 7, 6}, {7, 5, 3, 0}, {5, 4, 0, 3}, {6, 7, 1, 5, 0}, {7, 5, 0}, {7, 6, 0, 3, 2}, {7, 1, 3, 5, 0}, {1, 5, 3, 4}}},
		{12, 4, 6, setup(2, 8, 1, 1, 1), []int{0, 1, 2, 3, 4}, 1, [][]int{{1, 5}, {0}, {3, 4, 0}, {4, 2}, {6}, {6, 0}, {3, 1, 0, 4}}},
		{16, 2, 9, setup(2, 2, 1, 4, 1), []int{4, 8, 12}, 7, [][]int{{3, 1}, {8, 0}, {1, 4}, {9, 11}, {5, 11}, {10, 4}, {1, 12}, {2, 5}, {7, 4}, {0, 11}, {11, 12}, {4, 6}, {1, 5}}},
		{16, 0, 9, setup(2, 2, 1, 4, 1), []int{9, 1}, 0, [][]int{{1, 3}, {2, 4}, {}, {6, 13}, {5, 8}, {12}, {7}, {10}, {9}, {11}, {}, {}, {}, {}}},
		{16, 3, 0, setup(2, 3, 1, 2, 1), []int{1, 2, 3, 5, 7, 11, 13}, 0, [][]int{{3, 7}, {8, 3, 5}, {7, 5, 8}, {0, 7, 4}, {3, 7}, {7, 4}, {3, 1, 2}, {2, 1}, {6, 7}}},
	} {
		checkDeleted(t, samples.RuledWeb(c.count, c.degree, c.start), c.s, c.places, c.newStart, c.want...)
	}
}

// Of the nodes from first on each step-th one goes.
func TestDeleteOfManyReckonedOutside(t *testing.T) {
	for _, c := range []struct {
		count, degree, start   int
		s                      api.Setup
		first, step, many, sum int
	}{
		{97, 1, 50, setup(2, 1, 1, 1, 1), 0, 3, 64, 64536},
		{97, 2, 50, setup(2, 2, 1, 1, 1), 0, 2, 84, 90907},
		{97, 2, 50, setup(2, 2, 1, 6, 5), 1, 2, 85, 98774},
		{97, 3, 0, setup(2, 3, 1, 2, 1), 0, 5, 217, 506161},
		{97, 4, 11, setup(2, 4, 1, 3, 2), 3, 4, 216, 510981},
		{97, 4, 11, setup(2, 4, 1, 1000, 1), 1, 2, 193, 367838},
		{97, 4, 11, setup(2, 32, 1, 1000, 1), 1, 2, 257, 644855},
		{97, 4, 96, setup(2, 32, 1, 1, 1), 0, 3, 161, 294610},
		{97, 3, 3, setup(2, 5, 1, 1000, 999), 2, 7, 217, 524115},
		{60, 4, 30, setup(2, 6, 1, 4, 1), 1, 3, 152, 246392},
		{60, 4, 31, setup(2, 4, 1, 4, 1), 30, 1, 98, 96114},
	} {
		g := samples.RuledWeb(c.count, c.degree, c.start)
		var ids []uint64
		for place := c.first; place < c.count; place += c.step {
			ids = append(ids, g.Nodes[place].ID)
		}
		left := mustDelete(t, g, c.s, ids)
		if many, sum := sums(left); many != c.many || sum != c.sum {
			t.Errorf("%+v: %d, %d", c, many, sum)
		}
		checkLeft(t, g, c.s, ids, left)
	}
}

// Of all graphs of up to three nodes, with each Start, all sets of nodes go; of those of four, some of which are as far, some set.
func TestDeleteOfEachGraph(t *testing.T) {
	for _, line := range [][]int8{{}, {5}, {5, 3}, {5, 3, 9}, {-2, 2, -6}} {
		for degree := 1; degree <= 2; degree++ {
			samples.Joins(samples.OnLine(line...), degree, func(nth int, g api.Graph) {
				for g.Start = range max(len(line), 1) {
					samples.Subsets(len(line), func(places []int) {
						s := samples.Setups(1, degree)[(nth+g.Start+len(places))%6]
						ids := idsAt(g, places...)
						checkDelete(t, g, s, ids, plainDelete(g, s, ids))
					})
				}
			})
		}
	}
	nodes := samples.OnLine(6, 2, -2, 9)
	nodes.Nodes[0].ID, nodes.Nodes[1].ID = 9, 8
	for degree := 1; degree <= 2; degree++ {
		samples.Joins(nodes, degree, func(nth int, g api.Graph) {
			g.Start = nth % 4
			s := samples.Setups(1, degree)[nth%5]
			for _, ids := range [][]uint64{idsAt(g, nth%3), idsAt(g, 3, nth%3)} {
				checkDelete(t, g, s, ids, plainDelete(g, s, ids))
			}
		})
	}
}

func TestDeleteOfDrawnGraphs(t *testing.T) {
	for seed := range uint64(250) {
		draw := samples.Drawer(seed)
		dim, degree := 1+int(draw()%4), 1+int(draw()%6)
		g := samples.Web(seed, 1+int(draw()%40), dim, degree)
		for _, s := range samples.Setups(dim, degree) {
			var ids []uint64
			one := 1 + draw()%6
			for _, node := range g.Nodes {
				if draw()%one == 0 {
					ids = append(ids, node.ID)
				}
			}
			want := plainDelete(g, s, ids)
			checkDelete(t, g, s, ids, want)
			slices.Reverse(ids)
			checkDelete(t, g, s, ids, want)
		}
	}
}

// start makes the graph begin there.
func start(place int, g api.Graph) api.Graph {
	g.Start = place
	return g
}

// Graphs in which another reading of a rule leads to another graph.
func TestDeleteByEachRule(t *testing.T) {
	for _, c := range []struct {
		name   string
		g      api.Graph
		s      api.Setup
		places []int
		start  int
		want   [][]int
	}{
		{"a node gets what one that goes led to",
			samples.Joined(samples.OnLine(0, 1, 5, -5), []int{1}, []int{2, 3}, []int{0}, []int{0}), setup(1, 2, 1, 1, 1), []int{1}, 0,
			[][]int{{1, 2}, {0}, {0}}},
		{"of these it keeps what prune.Keep does: the nearest first, by the setup's measure",
			samples.Joined(samples.OnLine(0, 1, 5, 4, 9), []int{1}, []int{2, 3, 4}, []int{3}, []int{2}, []int{2}), setup(1, 3, 1, 16, 1), []int{1}, 0,
			[][]int{{2, 3}, {2}, {1}, {1}}},
		{"not what it led to is kept first, but what is nearest",
			samples.Joined(samples.OnLine(0, 1, 5, 4), []int{1, 2}, []int{3}, []int{3}, []int{2}), setup(1, 2, 1, 1000, 1), []int{1}, 0,
			[][]int{{2, 1}, {2}, {1}}},
		{"at most Degree are kept",
			samples.Joined(samples.OnLine(0, 1, 5, -5, 2), []int{1, 4}, []int{2, 3}, []int{0}, []int{0}, []int{2, 3}), setup(1, 2, 1, 1000, 1), []int{1}, 0,
			[][]int{{3, 1}, {0}, {0}, {1, 2}}},
		{"its neighbours that stay are pruned too, when one goes",
			samples.Joined(samples.OnLine(0, 1, 2, 90), []int{3, 2, 1}, []int{0}, []int{1}, []int{0}), setup(1, 3, 1, 1, 1), []int{3}, 0,
			[][]int{{1}, {0, 2}, {1}}},
		{"a node none of whose neighbours goes keeps them as they are, though prune.Keep would not",
			samples.Joined(samples.OnLine(0, 1, 2, 90), []int{2, 1}, []int{3}, []int{0}, []int{0}), setup(1, 3, 1, 1, 1), []int{3}, 0,
			[][]int{{2, 1}, {0}, {0}}},
		{"what is behind two that go, one behind the other, is not taken",
			start(3, samples.Joined(samples.OnLine(1, 2, 3, 0, -9), []int{1}, []int{2}, []int{3}, []int{0, 4}, []int{2})), setup(1, 2, 1, 1, 1), []int{0, 1}, 1,
			[][]int{{1}, {2}, {0}}},
		{"nor when these stand behind it",
			samples.Joined(samples.OnLine(0, 1, 2, 3, -9), []int{1, 4}, []int{2}, []int{3}, []int{0}, []int{3}), setup(1, 2, 1, 1, 1), []int{1, 2}, 0,
			[][]int{{2}, {0}, {1}}},
		{"what a neighbour that stays leads to is not taken",
			samples.Joined(samples.OnLine(0, 1, 2, 50, -9), []int{4, 1}, []int{0}, []int{3}, []int{2}, []int{2}), setup(1, 2, 1, 1, 1), []int{1}, 0,
			[][]int{{3}, {2}, {1}, {1}}},
		{"a node does not get itself, though one that goes led back to it",
			samples.Joined(samples.OnLine(0, 1, 2), []int{1}, []int{0, 2}, []int{0}), setup(1, 2, 1, 1, 1), []int{1}, 0,
			[][]int{{1}, {0}}},
		{"what two that go led to comes once, and so does what it led to itself",
			samples.Joined(samples.OnLine(0, 1, 2, 9), []int{1, 2, 3}, []int{3, 2}, []int{3, 1}, []int{0}), setup(1, 3, 1, 1, 1), []int{1, 2}, 0,
			[][]int{{1}, {0}}},
		{"a node that has no neighbour left leads nowhere, if all are reached",
			samples.Joined(samples.OnLine(0, 10, 20), []int{1, 2}, []int{2}, nil), setup(1, 2, 1, 1, 1), []int{2}, 0,
			[][]int{{1}, nil}},
		{"what is not reached then is led to, where there is room",
			samples.Joined(samples.OnLine(0, 1, 5, 6), []int{1}, []int{2, 3}, []int{0}, []int{0}), setup(1, 2, 1, 1, 1), []int{1}, 0,
			[][]int{{1}, {0, 2}, {0}}},
		{"or where room can be made",
			samples.Joined(samples.OnLine(0, 50, 5, 6), []int{1}, []int{2}, []int{0}, []int{0}), setup(1, 1, 1, 1, 1), []int{1}, 0,
			[][]int{{1}, {2}, {0}}},
		{"Start goes: it is the first one that is left",
			samples.Joined(samples.OnLine(0, 10, 20), []int{1}, []int{2}, []int{0}), setup(1, 2, 1, 1, 1), []int{0}, 0,
			[][]int{{1}, {0}}},
		{"Start stays: it is where that node is then",
			start(2, samples.Joined(samples.OnLine(0, 10, 20), []int{1}, []int{2}, []int{0})), setup(1, 2, 1, 1, 1), []int{0}, 1,
			[][]int{{1}, {0}}},
		{"Start goes, and it was the last one",
			start(2, samples.Joined(samples.OnLine(0, 10, 20), []int{1}, []int{2}, []int{0})), setup(1, 2, 1, 1, 1), []int{2}, 0,
			[][]int{{1}, {0}}},
	} {
		t.Run(c.name, func(t *testing.T) {
			ids := idsAt(c.g, c.places...)
			if plain := plainDelete(c.g, c.s, ids); !samples.SameGraph(plain, samples.Joined(samples.CopyGraph(plain), c.want...)) {
				t.Fatalf("the document's words: %v; want %v", plain, c.want)
			}
			checkDeleted(t, c.g, c.s, c.places, c.start, c.want...)
		})
	}
}

// When none goes, the graph is mended, and nothing else.
func TestDeleteOfNone(t *testing.T) {
	for seed := range uint64(50) {
		g := samples.Web(seed, 20, 2, 3)
		for _, s := range samples.Setups(2, 3) {
			checkDelete(t, g, s, nil, plainRepair(g, s))
			checkDelete(t, g, s, []uint64{}, plainRepair(g, s))
		}
	}
}

// When all go but one, this one leads nowhere, and is at Start.
func TestDeleteOfAllButOne(t *testing.T) {
	g, s := samples.Web(1, 30, 2, 3), setup(2, 3, 1, 1, 1)
	checkDelete(t, g, s, idsAt(g, samples.UpTo(30)...), api.Graph{})
	for place := range g.Nodes {
		g.Start = place
		for _, stays := range []int{0, place, 29} {
			ids := idsAt(g, samples.UpTo(30)...)
			checkDelete(t, g, s, slices.Delete(ids, stays, stays+1), samples.Bare(samples.Items(g)[stays]))
		}
	}
}

// Nodes go one by one: they are gone, and the others are there.
func TestDeleteOneByOne(t *testing.T) {
	for seed := range uint64(10) {
		degree := 1 + int(seed%4)
		g := samples.Web(seed, 40, 2, degree)
		for _, s := range samples.Setups(2, degree) {
			left := g
			for nth := range g.Nodes {
				ids := idsAt(left, nth*7%len(left.Nodes))
				want := plainDelete(left, s, ids)
				checkDelete(t, left, s, ids, want)
				checkNoDelete(t, want, s, ids, api.ErrNone)
				left = want
			}
			if len(left.Nodes) != 0 {
				t.Errorf("%v", left)
			}
		}
	}
}

func TestDeleteOfEachDim(t *testing.T) {
	for dim := 1; dim <= api.MaxDim; dim++ {
		g, s := samples.Web(uint64(dim), 12, dim, 3), setup(dim, 3, 4, 6, 5)
		g.Nodes[3].V, g.Nodes[7].V = samples.Filled(dim, -128), samples.Filled(dim, 127)
		checkDelete(t, g, s, everyOther(g), plainDelete(g, s, everyOther(g)))
		s.Dim++
		checkNoDelete(t, g, s, everyOther(g), api.ErrArg)
	}
}

// IDs that no node has, be they numbers of items or not; what is near them may be one.
func TestDeleteOfIDsThatAreNone(t *testing.T) {
	g, s := samples.Web(1, 9, 2, 3), setup(2, 3, 4, 6, 5)
	g.Nodes[3].ID, g.Nodes[8].ID = api.MaxNumber, 0
	checkDelete(t, g, s, []uint64{0, api.MaxNumber}, plainDelete(g, s, []uint64{0, api.MaxNumber}))
	all := idsAt(g, samples.UpTo(9)...)
	for _, id := range []uint64{1, 1 << 32, api.MaxNumber - 1, 1 << 62, 1 << 63, math.MaxUint64, all[0] + 1, all[1] | 1<<62, all[2] | 1<<63} {
		for at := range 10 {
			checkNoDelete(t, g, s, slices.Insert(slices.Clone(all), at, id), api.ErrNone)
			checkNoDelete(t, g, s, slices.Insert(slices.Clone(all), at, id, id+2), api.ErrNone)
			checkNoDelete(t, g, s, slices.Insert(slices.Clone(all), at, id, all[5]), api.ErrArg)
			checkNoDelete(t, g, s, slices.Insert(slices.Clone(all), at, id, id), api.ErrArg)
		}
		checkNoDelete(t, g, s, []uint64{id}, api.ErrNone)
		checkNoDelete(t, g, s, []uint64{id, id}, api.ErrArg)
		checkNoDelete(t, api.Graph{}, s, []uint64{id}, api.ErrNone)
		checkNoDelete(t, api.Graph{}, s, []uint64{id, 5, id}, api.ErrArg)
	}
	many := make([]uint64, 2*api.MaxItems)
	for i := range many {
		many[i] = uint64(i)
	}
	checkNoDelete(t, g, s, many, api.ErrNone)
	checkNoDelete(t, g, s, append(many, 77), api.ErrArg)
	checkNoDelete(t, api.Graph{}, s, many, api.ErrNone)
}

// A number stands twice, wherever it stands.
func TestDeleteOfIDsTwice(t *testing.T) {
	g, s := samples.Web(1, 9, 2, 3), setup(2, 3, 4, 6, 5)
	for a := range 6 {
		for b := range 6 {
			if a != b {
				ids := idsAt(g, samples.UpTo(6)...)
				checkDelete(t, g, s, ids, plainDelete(g, s, ids))
				ids[a] = ids[b]
				checkNoDelete(t, g, s, ids, api.ErrArg)
			}
		}
	}
}

func TestDeleteRefuses(t *testing.T) {
	for _, s := range samples.WrongSetups() {
		for _, g := range []api.Graph{{}, example(), samples.OnLine(5)} {
			for _, ids := range [][]uint64{nil, {1}, {1, 1}, {77}} {
				checkNoDelete(t, g, s, ids, api.ErrArg)
			}
		}
	}
	g, s := samples.Web(1, 9, 3, 4), setup(3, 4, 6, 6, 5)
	g.Nodes[4].Out = []int{8, 0, 2, 7}
	checkDelete(t, g, s, idsAt(g, 0, 8), plainDelete(g, s, idsAt(g, 0, 8)))
	// What is wrong with a node counts, though it goes.
	for _, ids := range [][]uint64{nil, idsAt(g, 8), idsAt(g, samples.UpTo(9)...), idsAt(g, 3, 3), {77}} {
		for _, fault := range samples.Faults(g, 4) {
			checkNoDelete(t, fault.Graph, s, ids, api.ErrArg)
			checkNoDelete(t, fault.Graph, s, idsAt(fault.Graph, 8), api.ErrArg)
		}
		checkNoDelete(t, g, setup(3, 3, 6, 6, 5), ids, api.ErrArg)
		checkNoDelete(t, g, setup(4, 4, 6, 6, 5), ids, api.ErrArg)
		for _, start := range append(samples.FarNumbers(), 1) {
			checkNoDelete(t, api.Graph{Start: start}, s, ids, api.ErrArg)
		}
	}
}

func TestDeleteAtTheLimits(t *testing.T) {
	g, s := samples.FullGraph(), samples.MostSetup()
	all := idsAt(g, samples.UpTo(api.MaxItems)...)
	checkDelete(t, g, s, all, api.Graph{})
	checkDelete(t, g, s, nil, g)
	checkNoDelete(t, g, s, append(slices.Clone(all), 5), api.ErrNone)
	checkNoDelete(t, g, s, append(slices.Clone(all), all[7]), api.ErrArg)
	for _, ids := range [][]uint64{all[:1], all[2047:], all[1:], all[:2000], everyOther(g)} {
		checkLeft(t, g, s, ids, mustDelete(t, g, s, ids))
	}
	g, s = samples.Web(1, api.MaxItems, api.MaxDim, api.MaxDegree), samples.WideSetup(api.MaxDim)
	s.Den = 1
	checkLeft(t, g, s, everyOther(g), mustDelete(t, g, s, everyOther(g)))
	g.Nodes = append(g.Nodes, api.Node{ID: 7, V: make([]int8, api.MaxDim)})
	checkNoDelete(t, g, s, []uint64{7}, api.ErrArg)
}

// A node has as many neighbours as can be, and all of them go: it gets what these led to, as many of them as can be.
func TestDeleteOfAllNeighbours(t *testing.T) {
	g := samples.Dots(samples.Crowd(1, 1+32+32*31, 3)...)
	var ids []uint64
	for nth := range 32 {
		g.Nodes[0].Out = append(g.Nodes[0].Out, 1+nth)
		ids = append(ids, uint64(1+nth))
		g.Nodes[1+nth].Out = []int{0}
		for next := range 31 {
			g.Nodes[1+nth].Out = append(g.Nodes[1+nth].Out, 33+31*nth+next)
		}
	}
	for _, s := range samples.Setups(3, 32)[:3] {
		checkDelete(t, g, s, ids, plainDelete(g, s, ids))
	}
	for nth := range 32 {
		g.Nodes[1+nth].Out = samples.UpTo(65)[33:]
	}
	for _, s := range samples.Setups(3, 32)[:3] {
		checkDelete(t, g, s, ids[:31], plainDelete(g, s, ids[:31]))
	}
}

// R4

func TestDeleteLeavesItsArguments(t *testing.T) {
	plain := samples.Web(1, 30, 4, 3)
	g, look := samples.RoomyGraph(plain)
	ahead, room := look(), append(idsAt(plain, 7, 3, 0, 29), 77, 78)
	kept, ids := slices.Clone(room), room[:4]
	for _, s := range samples.Setups(4, 3) {
		want := plainDelete(plain, s, ids)
		left, other := mustDelete(t, g, s, ids), mustDelete(t, g, s, ids)
		checkNoDelete(t, g, s, room, api.ErrNone)
		checkNoDelete(t, g, s, append(slices.Clone(room), 77), api.ErrArg)
		if !samples.SameGraph(left, want) || !samples.SameGraph(look(), ahead) || !slices.Equal(room, kept) {
			t.Fatalf("%v, %v, %v", left, look(), room)
		}
		samples.SpoilGraph(left)
		if !samples.SameGraph(other, want) || !samples.SameGraph(look(), ahead) {
			t.Fatalf("%v, %v", other, look())
		}
		given, list := samples.CopyGraph(plain), slices.Clone(ids)
		left = mustDelete(t, given, s, list)
		samples.SpoilGraph(given)
		clear(list)
		if !samples.SameGraph(left, want) {
			t.Fatalf("%v; want %v", left, want)
		}
	}
}

// No two lists of a graph that is answered share memory, though those that are handed in do.
func TestListsThatAreLeftShareNoMemory(t *testing.T) {
	for _, s := range samples.Setups(4, 4) {
		samples.Subsets(len(sharing().Nodes), func(places []int) {
			ids := idsAt(sharing(), places...)
			if shared := samples.SharedLists(func() api.Graph { return mustDelete(t, sharing(), s, ids) }); len(shared) > 0 {
				t.Errorf("%+v: without %d the nodes %v share", s, places, shared)
			}
		})
	}
}
