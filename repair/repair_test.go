package repair_test

import (
	"math"
	"slices"
	"testing"

	"lodestone/api"
	"lodestone/graph"
	"lodestone/repair"
	"lodestone/samples"
)

// setup is one for vectors of so many numbers.
func setup(dim, degree, beam, num, den int) api.Setup {
	return api.Setup{Dim: dim, Degree: degree, Beam: beam, Num: num, Den: den}
}

// exampleSetup is the chapter's setup; example is its graph.
func exampleSetup() api.Setup { return setup(1, 2, 1, 1, 1) }

func example() api.Graph {
	l := []api.Item{{ID: 1, V: []int8{0}}, {ID: 2, V: []int8{4}}, {ID: 3, V: []int8{9}}, {ID: 4, V: []int8{10}}}
	return samples.Joined(samples.Bare(l...), []int{1}, []int{2})
}

// full is a graph of so many nodes, all of which lead to the first ones alone, each to as many as it may: there is no room at all.
func full(count, degree int) api.Graph {
	g := samples.Ruled(count)
	for place := range g.Nodes {
		for next := range degree + 1 {
			if next != place && len(g.Nodes[place].Out) < degree {
				g.Nodes[place].Out = append(g.Nodes[place].Out, next)
			}
		}
	}
	return g
}

// plainRepair is the document's words.
func plainRepair(g api.Graph, s api.Setup) api.Graph {
	g = samples.CopyGraph(g)
	samples.Mend(g, s)
	return g
}

func mustRepair(t *testing.T, g api.Graph, s api.Setup) api.Graph {
	t.Helper()
	mended, e := repair.Repair(g, s)
	if e != api.OK {
		t.Fatalf("Repair(%v (%d nodes), %+v): %d", samples.TellGraph(g), len(g.Nodes), s, e)
	}
	return mended
}

func checkRepair(t *testing.T, g api.Graph, s api.Setup, want api.Graph) {
	t.Helper()
	mended := mustRepair(t, g, s)
	if !samples.SameGraph(mended, want) {
		t.Errorf("Repair(%v (%d nodes), %+v) = %v; want %v", samples.TellGraph(g), len(g.Nodes), s, samples.TellGraph(mended), samples.TellGraph(want))
	}
	checkFollows(t, mended, s, samples.Items(g), g.Start)
}

// checkRepaired: the graph is mended, and then its nodes have these neighbours.
func checkRepaired(t *testing.T, g api.Graph, s api.Setup, outs ...[]int) {
	t.Helper()
	checkRepair(t, g, s, samples.Joined(samples.CopyGraph(g), outs...))
}

func checkNoRepair(t *testing.T, g api.Graph, s api.Setup) {
	t.Helper()
	if mended, e := repair.Repair(g, s); len(mended.Nodes) != 0 || mended.Start != 0 || e != api.ErrArg {
		t.Errorf("Repair(%v (%d nodes), %+v) = %v, %d", samples.TellGraph(g), len(g.Nodes), s, samples.TellGraph(mended), e)
	}
}

// P13.1

func TestRepairKnown(t *testing.T) {
	g, s := example(), exampleSetup()
	checkRepaired(t, g, s, []int{1}, []int{2}, []int{3}, nil)
	checkRepaired(t, g, setup(1, 1, 1, 1, 1), []int{1}, []int{2}, []int{3}, nil)
	g.Nodes[2].Out = []int{0}
	checkRepaired(t, g, s, []int{1}, []int{2}, []int{0, 3}, nil)
	checkRepaired(t, g, setup(1, 1, 1, 1, 1), []int{1}, []int{2}, []int{3}, nil)
	g.Start = 2
	checkRepaired(t, g, s, []int{1}, []int{2}, []int{0, 3}, nil)
	g.Start = 3
	checkRepaired(t, g, s, []int{1}, []int{2}, []int{0}, []int{0})
	checkRepaired(t, api.Graph{}, s)
	checkRepaired(t, api.Graph{Nodes: []api.Node{}}, s)
	checkRepaired(t, samples.OnLine(5), s, nil)
	checkRepaired(t, samples.OnLine(5, 7), s, []int{1}, nil)
}

// Numbers reckoned outside the program.
func TestRepairReckonedOutside(t *testing.T) {
	for _, c := range []struct {
		count, degree, start, most int
		want                       [][]int
	}{
		{7, 0, 0, 1, [][]int{{1}, {2}, {3}, {4}, {5}, {6}, {}}},
		{7, 0, 3, 2, [][]int{{1}, {4}, {5}, {0, 2}, {}, {6}, {}}},
		{8, 0, 5, 3, [][]int{{1}, {4, 7}, {3}, {}, {}, {0, 2, 6}, {}, {}}},
		{8, 1, 2, 1, [][]int{{3}, {0}, {1}, {4}, {7}, {6}, {5}, {5}}},
		{8, 1, 2, 2, [][]int{{3, 4}, {2, 0}, {1}, {0}, {7}, {6}, {5}, {4, 5}}},
		{9, 1, 4, 1, [][]int{{3}, {2}, {8}, {6}, {0}, {7}, {1}, {3}, {5}}},
		{9, 2, 7, 2, [][]int{{3, 1}, {6, 4}, {8, 3}, {6, 1}, {0, 2}, {2, 0}, {0, 1}, {3, 2}, {5, 6}}},
		{12, 1, 5, 1, [][]int{{3}, {10}, {0}, {1}, {7}, {2}, {9}, {6}, {11}, {8}, {4}, {8}}},
		{12, 2, 3, 2, [][]int{{3, 1}, {6, 8}, {5, 9}, {0, 10}, {7, 9}, {2, 6}, {9, 1}, {4, 6}, {11, 9}, {10, 4}, {9, 2}, {8, 6}}},
		{12, 1, 1, 3, [][]int{{3}, {10, 0, 4}, {5}, {0, 2}, {7}, {2, 6}, {9}, {4, 8}, {11}, {6}, {1}, {8}}},
		{16, 2, 9, 2, [][]int{{3, 1}, {10, 6}, {1, 5}, {8, 14}, {15, 1}, {6, 14}, {13, 5}, {4, 6}, {11, 1}, {2, 6}, {9, 5}, {0, 14}, {7, 0}, {14, 15}, {5, 2}, {12, 6}}},
		{20, 1, 0, 1, [][]int{{3}, {10}, {17}, {4}, {11}, {18}, {7}, {12}, {19}, {6}, {13}, {1}, {8}, {14}, {2}, {8}, {15}, {5}, {9}, {16}}},
		{20, 1, 19, 2, [][]int{{3}, {10, 7}, {17}, {4, 2}, {11}, {18}, {5}, {12}, {19, 1}, {6}, {13}, {0}, {7}, {14}, {1, 5}, {8}, {15, 0}, {2}, {9}, {16}}},
	} {
		checkRepaired(t, samples.RuledWeb(c.count, c.degree, c.start), setup(2, c.most, 1, 1, 1), c.want...)
	}
}

// sums tells how many neighbours there are, and a sum of which ones they are.
func sums(g api.Graph) (many, sum int) {
	for place, node := range g.Nodes {
		for i, next := range node.Out {
			many++
			sum += (31*place + next) * (i + 1)
		}
	}
	return many, sum
}

func TestRepairOfManyReckonedOutside(t *testing.T) {
	for _, c := range []struct{ count, degree, start, most, many, sum int }{
		{97, 0, 7, 1, 96, 146009},
		{97, 0, 7, 5, 96, 125074},
		{97, 1, 50, 1, 97, 149017},
		{97, 2, 50, 2, 194, 447109},
		{97, 1, 96, 2, 98, 150789},
		{97, 3, 0, 3, 291, 893824},
		{97, 4, 11, 4, 379, 1439160},
		{60, 1, 30, 1, 60, 56652},
		{61, 2, 31, 2, 122, 175542},
	} {
		g := mustRepair(t, samples.RuledWeb(c.count, c.degree, c.start), setup(2, c.most, 1, 1, 1))
		if many, sum := sums(g); many != c.many || sum != c.sum {
			t.Errorf("%+v: %d, %d", c, many, sum)
		}
	}
}

// All graphs of up to three nodes, with each Start, and those of four, some of which are as far.
func TestRepairOfEachGraph(t *testing.T) {
	for _, line := range [][]int8{{}, {5}, {5, 3}, {5, 3, 9}, {-2, 2, -6}} {
		for degree := 1; degree <= 2; degree++ {
			samples.Joins(samples.OnLine(line...), degree, func(_ int, g api.Graph) {
				for g.Start = range max(len(line), 1) {
					for _, s := range samples.Setups(1, degree) {
						checkRepair(t, g, s, plainRepair(g, s))
					}
				}
			})
		}
	}
	nodes := samples.OnLine(6, 2, -2, 9)
	nodes.Nodes[0].ID, nodes.Nodes[1].ID = 9, 8
	for degree := 1; degree <= 2; degree++ {
		samples.Joins(nodes, degree, func(nth int, g api.Graph) {
			g.Start = nth % 4
			for _, s := range samples.Setups(1, degree)[2:4] {
				checkRepair(t, g, s, plainRepair(g, s))
			}
		})
	}
}

func TestRepairOfDrawnGraphs(t *testing.T) {
	room, noRoom := 0, 0
	for seed := range uint64(400) {
		draw := samples.Drawer(seed)
		dim, degree := 1+int(draw()%4), 1+int(draw()%4)
		g := samples.Web(seed, 1+int(draw()%40), dim, degree)
		for _, s := range samples.Setups(dim, degree) {
			checkRepair(t, g, s, plainRepair(g, s))
			a, b := samples.Mend(samples.CopyGraph(g), s)
			room, noRoom = room+a, noRoom+b
		}
	}
	if room < 1000 || noRoom < 100 {
		t.Errorf("there was room %d times, and none %d times: too few", room, noRoom)
	}
}

// Graphs in which another reading of a rule of mending leads to another graph.
func TestRepairByEachRule(t *testing.T) {
	for _, c := range []struct {
		name   string
		g      api.Graph
		degree int
		want   [][]int
	}{
		{"the first node that is not reached is led to first, and what it leads to is reached then",
			samples.Joined(samples.OnLine(0, 9, 8, 1), nil, []int{2}, []int{3}), 1, [][]int{{1}, {2}, {3}, nil}},
		{"that it leads to more does not count",
			samples.Joined(samples.OnLine(0, 9, 8, 1), nil, nil, []int{1, 3}), 2, [][]int{{1}, {2}, {1, 3}, nil}},
		{"it becomes the last neighbour",
			samples.Joined(samples.OnLine(0, 5, 6), []int{2}, nil, []int{0}), 2, [][]int{{2}, nil, {0, 1}}},
		{"it comes to the nearest node that is reached and has room, not to a nearer one that is not reached, nor to one without room",
			samples.Joined(samples.OnLine(0, 20, 21, 19, 10), []int{3, 4}, nil, []int{1}, []int{0, 4}), 2, [][]int{{3, 4}, {2}, {1}, {0, 4}, {1}}},
		{"how far nodes are from Start does not count",
			samples.Joined(samples.OnLine(0, 30, 60, 59), []int{1}, []int{2}, nil), 3, [][]int{{1}, {2}, {3}, nil}},
		{"of those that have room, and are as near, the one whose ID is less gets it",
			samples.Joined(samples.OnLine(0, 4, 8, 6), []int{2, 1}, nil, nil), 2, [][]int{{2, 1}, {3}, nil, nil}},
		{"all full: the nearest node that has a neighbour that is no way; of these the farthest goes",
			samples.Joined(samples.OnLine(0, 4, 10, 5), []int{1, 2}, []int{0, 2}, []int{0, 1}, []int{0, 1}), 2, [][]int{{1, 2}, {0, 3}, {0, 1}, {0, 1}}},
		{"a nearer node all of whose neighbours are ways keeps them",
			samples.Joined(samples.OnLine(0, 90, 10, 1), []int{2}, []int{0}, []int{1}, []int{0}), 1, [][]int{{2}, {3}, {1}, {0}}},
		{"a way is the neighbour by which a node is come to first: the neighbours' order counts",
			samples.Joined(samples.OnLine(0, 4, -4, 90, 3), []int{2, 1}, []int{3, 0}, []int{3, 0}, []int{0, 1}, []int{0, 1}), 2, [][]int{{2, 1}, {0, 4}, {3, 0}, {0, 1}, {0, 1}}},
		{"nodes are gone through in the order in which they are come to, one step after the other",
			samples.Joined(samples.OnLine(0, 50, 9, 40, 10), []int{1, 2}, []int{3, 0}, []int{3, 0}, []int{0, 1}, []int{0, 1}), 2, [][]int{{1, 2}, {3, 0}, {0, 4}, {0, 1}, {0, 1}}},
		{"of those that are as far, the one whose ID is greater goes",
			samples.Joined(samples.OnLine(0, 3, -3, 50, 60), []int{3, 1, 2}, []int{0, 2, 3}, []int{0, 1, 3}, []int{1, 2, 0}, []int{0, 1, 2}), 3, [][]int{{3, 1, 2}, {0, 2, 3}, {0, 1, 3}, {1, 0, 4}, {0, 1, 2}}},
	} {
		t.Run(c.name, func(t *testing.T) {
			s := setup(1, c.degree, 1, 1, 1)
			if want := samples.Joined(samples.CopyGraph(c.g), c.want...); !samples.SameGraph(plainRepair(c.g, s), want) {
				t.Fatalf("the document's words: %v; want %v", plainRepair(c.g, s), want)
			}
			checkRepaired(t, c.g, s, c.want...)
		})
	}
}

// A node that is led to just then has room for the next one.
func TestRepairOfLooseNodes(t *testing.T) {
	for degree := 1; degree <= api.MaxDegree; degree++ {
		for _, start := range []int{0, 31, 59} {
			for _, s := range samples.Setups(2, min(degree, api.MaxDegree-2)) {
				g := samples.RuledWeb(60, 0, start)
				checkRepair(t, g, s, plainRepair(g, s))
			}
		}
	}
}

// All nodes have as many neighbours as they may: each lost one takes the place of another neighbour.
func TestRepairMakesRoom(t *testing.T) {
	for degree := 1; degree <= api.MaxDegree; degree++ {
		g, s := full(60, degree), setup(2, degree, 9, 1000, 1)
		checkRepair(t, g, s, plainRepair(g, s))
		if room, noRoom := samples.Mend(g, s); room != 0 || noRoom != 60-degree-1 {
			t.Errorf("degree %d: there was room %d times, and none %d times", degree, room, noRoom)
		}
	}
}

// Mending needs the setup's Degree alone.
func TestRepairGoesByTheDegreeAlone(t *testing.T) {
	g := samples.Web(3, 40, 2, 2)
	want := plainRepair(g, setup(2, 2, 1, 1, 1))
	for _, s := range []api.Setup{setup(2, 2, 1, 1, 1), setup(2, 2, 256, 1, 1), setup(2, 2, 7, 1000, 1), setup(2, 2, 1, 1000, 1000)} {
		checkRepair(t, g, s, want)
	}
}

// All numbers that a vector may have, of each length.
func TestRepairOfEachDim(t *testing.T) {
	for dim := 1; dim <= api.MaxDim; dim++ {
		g, s := samples.Web(uint64(dim), 12, dim, 2), setup(dim, 2, 4, 6, 5)
		g.Nodes[3].V, g.Nodes[7].V = samples.Filled(dim, -128), samples.Filled(dim, 127)
		checkRepair(t, g, s, plainRepair(g, s))
		s.Dim++
		checkNoRepair(t, g, s)
		s.Dim -= 2
		checkNoRepair(t, g, s)
	}
}

func TestRepairAtTheLimits(t *testing.T) {
	checkRepair(t, samples.FullGraph(), samples.MostSetup(), samples.FullGraph())
	for _, s := range []api.Setup{samples.LeastSetup(2), setup(2, 3, 5, 6, 5), samples.WideSetup(2)} {
		g := samples.Web(1, api.MaxItems, 2, 0)
		checkFollows(t, mustRepair(t, g, s), s, samples.Items(g), g.Start)
		g.Nodes = append(g.Nodes, api.Node{ID: 7, V: []int8{1, 2}})
		checkNoRepair(t, g, s)
		g = samples.Web(1, api.MaxItems, 2, 1)
		checkFollows(t, mustRepair(t, g, s), s, samples.Items(g), g.Start)
	}
}

func TestRepairRefuses(t *testing.T) {
	for _, s := range samples.WrongSetups() {
		for _, g := range []api.Graph{{}, example(), samples.OnLine(5)} {
			checkNoRepair(t, g, s)
		}
	}
	g, s := samples.Web(1, 9, 3, 4), setup(3, 4, 6, 6, 5)
	g.Nodes[4].Out = []int{8, 0, 2, 7}
	checkRepair(t, g, s, plainRepair(g, s))
	for _, fault := range samples.Faults(g, 4) {
		checkNoRepair(t, fault.Graph, s)
	}
	checkNoRepair(t, g, setup(3, 3, 6, 6, 5))
	checkNoRepair(t, g, setup(4, 4, 6, 6, 5))
	for _, start := range append(samples.FarNumbers(), 1) {
		checkNoRepair(t, api.Graph{Start: start}, s)
	}
	for _, g.Start = range append(samples.FarNumbers(), 9) {
		checkNoRepair(t, g, s)
	}
}

// P13.3

// checkFollows: the graph may be; its nodes are the items, in order; each is reached, from the Start.
func checkFollows(t *testing.T, g api.Graph, s api.Setup, l []api.Item, start int) {
	t.Helper()
	if !samples.SameItems(samples.Items(g), l) || g.Start != start || !graph.Check(g, s) {
		t.Errorf("%+v: of %d items, and the Start %d, it is %v", s, len(l), start, samples.TellGraph(g))
	}
	if reached, e := graph.Reached(g); len(reached) != len(l) || e != api.OK {
		t.Errorf("%+v: %d of %d are reached: %v", s, len(reached), len(l), samples.TellGraph(g))
	}
}

// A graph each of whose nodes is reached stays as it is, whether there is room in it or not, and whatever prune.Keep would keep.
func TestRepairLeavesWhatIsReached(t *testing.T) {
	many := 0
	for seed := range uint64(300) {
		draw := samples.Drawer(seed)
		dim, degree := 1+int(draw()%4), 1+int(draw()%6)
		g := samples.Web(seed, 1+int(draw()%8), dim, degree)
		for _, s := range samples.Setups(dim, degree) {
			mended := mustRepair(t, g, s)
			checkRepair(t, mended, s, mended)
		}
		if reached, _ := graph.Reached(g); len(reached) == len(g.Nodes) {
			checkRepair(t, g, samples.WideSetup(dim), g)
			many++
		}
	}
	if many < 50 {
		t.Errorf("%d graphs each of whose nodes is reached: too few", many)
	}
	checkRepaired(t, samples.Joined(samples.OnLine(0, 1, 2, 3), []int{3, 2, 1}), setup(1, 3, 1, 1, 1), []int{3, 2, 1}, nil, nil, nil)
}

// What is reached stays so, and is no farther from Start.
func TestRepairKeepsWaysToWhatIsReached(t *testing.T) {
	for seed := range uint64(200) {
		degree := 1 + int(seed%5)
		g, s := samples.Web(seed, 30, 2, degree), setup(2, degree, 1, 1, 1)
		ahead, _ := graph.Hops(g)
		hops, _ := graph.Hops(mustRepair(t, g, s))
		for place, steps := range ahead {
			if steps != -1 && (hops[place] == -1 || hops[place] > steps) {
				t.Errorf("seed %d, %d: %d steps; it was %d", seed, place, hops[place], steps)
			}
		}
	}
}

// R4, R5

func TestRepairLeavesItsArgument(t *testing.T) {
	plain := samples.Web(1, 30, 4, 3)
	g, look := samples.RoomyGraph(plain)
	ahead := look()
	for _, s := range samples.Setups(4, 3) {
		want := plainRepair(plain, s)
		mended, other := mustRepair(t, g, s), mustRepair(t, g, s)
		if !samples.SameGraph(mended, want) || !samples.SameGraph(look(), ahead) {
			t.Fatalf("%v, %v", mended, look())
		}
		samples.SpoilGraph(mended)
		if !samples.SameGraph(other, want) || !samples.SameGraph(look(), ahead) {
			t.Fatalf("%v, %v", other, look())
		}
		given := samples.CopyGraph(plain)
		mended = mustRepair(t, given, s)
		samples.SpoilGraph(given)
		if !samples.SameGraph(mended, want) {
			t.Fatalf("%v; want %v", mended, want)
		}
	}
}

// sharing is a graph whose lists share memory.
func sharing() api.Graph {
	v, out := samples.Noise(1, 9), []int{2, 1, 3, 0}
	g := samples.Linked(0, out[:3], out[2:], out[3:], out[:2], nil, out[:0], nil)
	for i := range g.Nodes {
		g.Nodes[i].V = v[i%5 : i%5+4]
	}
	g.Nodes[1].Out = []int{3, 4}
	return g
}

// No two lists of a graph that is answered share memory, though those that are handed in do.
func TestRepairedListsShareNoMemory(t *testing.T) {
	for _, s := range samples.Setups(4, 4) {
		if shared := samples.SharedLists(func() api.Graph { return mustRepair(t, sharing(), s) }); len(shared) > 0 {
			t.Errorf("%+v: the nodes %v share", s, shared)
		}
	}
}

// An answer hangs on what is handed in alone, not on the calls ahead of it.
func TestCallsAheadChangeNothing(t *testing.T) {
	g, s := samples.RuledWeb(60, 2, 5), setup(2, 2, 4, 1, 1)
	ids := []uint64{g.Nodes[4].ID, g.Nodes[40].ID, g.Nodes[5].ID}
	mended, left := plainRepair(g, s), plainDelete(g, s, ids)
	for range 3 {
		checkRepaired(t, example(), exampleSetup(), []int{1}, []int{2}, []int{3}, nil)
		checkDelete(t, g, s, ids, left)
		checkNoDelete(t, g, s, []uint64{1000}, api.ErrNone)
		checkRepair(t, g, s, mended)
		checkNoRepair(t, g, api.Setup{})
	}
}

// Calls that run side by side don't meet, though they are handed the same graph.
func TestCallsSideBySide(t *testing.T) {
	g := samples.RuledWeb(50, 2, 5)
	done := make(chan int)
	for n := range 20 {
		go func() {
			s, ids := setup(2, 2+n%4, 3, 6, 5), []uint64{g.Nodes[n].ID, g.Nodes[2*n+1].ID}
			mended, e := repair.Repair(g, s)
			left, e2 := repair.Delete(g, s, ids)
			if e != api.OK || e2 != api.OK || !samples.SameGraph(mended, plainRepair(g, s)) || !samples.SameGraph(left, plainDelete(g, s, ids)) {
				t.Errorf("%d: %v, %d; %v, %d", n, samples.TellGraph(mended), e, samples.TellGraph(left), e2)
			}
			done <- n
		}()
	}
	for range 20 {
		<-done
	}
}

// FuzzRepair holds both calls, of a graph and of numbers that are made of bytes, against the plain ones.
func FuzzRepair(f *testing.F) {
	f.Add([]byte{1, 10, 2, 3}, []byte{4, 5, 6}, 1, 1, 1, 1, 1)
	f.Add([]byte{9, 17, 0, 4, 0, 0, 1, 7, 0, 2, 9, 9, 9, 9, 9, 9, 9, 9, 9, 9, 9, 9, 30, 5, 4, 3, 2, 1, 0}, []byte{0, 1}, 1, 4, 256, 1000, 1)
	f.Add([]byte{5, 6, 1, 2, 3, 4, 0, 5, 6, 0, 0, 255, 12}, []byte{200, 1, 1}, 2, 3, 4, 6, 5)
	f.Add([]byte{5, 6}, []byte{}, 0, 33, 257, 3, math.MinInt)
	f.Fuzz(func(t *testing.T, bytes, which []byte, dim, degree, beam, num, den int) {
		g, s := samples.BentGraph(samples.Bytes(bytes)), setup(dim, degree, beam, num, den)
		var ids []uint64
		known := true
		for _, n := range which {
			if int(n) < len(g.Nodes) {
				ids = append(ids, g.Nodes[n].ID)
			} else {
				id := uint64(n) << (n % 57)
				ids, known = append(ids, id), known && graph.Find(g, id) != -1
			}
		}
		if !graph.Check(g, s) {
			checkNoRepair(t, g, s)
			checkNoDelete(t, g, s, ids, api.ErrArg)
			return
		}
		checkRepair(t, g, s, plainRepair(g, s))
		sorted := slices.Sorted(slices.Values(ids))
		switch {
		case len(slices.Compact(sorted)) < len(ids):
			checkNoDelete(t, g, s, ids, api.ErrArg)
		case !known:
			checkNoDelete(t, g, s, ids, api.ErrNone)
		default:
			checkDelete(t, g, s, ids, plainDelete(g, s, ids))
		}
	})
}

// Nothing leads to any node but the one at Start.
func BenchmarkRepairOfLooseNodes(b *testing.B) {
	g := samples.Web(1, api.MaxItems, api.MaxDim, 0)
	for b.Loop() {
		repair.Repair(g, setup(api.MaxDim, api.MaxDegree, 64, 6, 5))
	}
}

// Every other node goes.
func BenchmarkDelete(b *testing.B) {
	g := samples.Web(1, api.MaxItems, api.MaxDim, api.MaxDegree)
	ids := everyOther(g)
	for b.Loop() {
		repair.Delete(g, setup(api.MaxDim, api.MaxDegree, 64, 1000, 1), ids)
	}
}
