package build_test

import (
	"math"
	"slices"
	"testing"

	"lodestone/api"
	"lodestone/build"
	"lodestone/graph"
	"lodestone/prune"
	"lodestone/samples"
	"lodestone/search"
)

// setup is one for vectors of so many numbers.
func setup(dim, degree, beam, num, den int) api.Setup {
	return api.Setup{Dim: dim, Degree: degree, Beam: beam, Num: num, Den: den}
}

func item(id uint64, v ...int8) api.Item { return api.Item{ID: id, V: v} }

// example is the chapter's graph; exampleSetup is its setup.
func example() api.Graph {
	return samples.Joined(samples.Bare(item(1, 0), item(2, 9)), []int{1}, []int{0})
}

func exampleSetup() api.Setup { return setup(1, 1, 4, 1, 1) }

// ruled is a graph of samples.RuledWeb; the next item of its rule stands beside it.
func ruled(count, degree, start int) (api.Graph, api.Item) {
	return samples.RuledWeb(count, degree, start), samples.Items(samples.Ruled(count + 1))[count]
}

// plainJoin is what is done ahead of mending: a graph in which the item is.
func plainJoin(g api.Graph, s api.Setup, x api.Item) api.Graph {
	own := len(g.Nodes)
	_, looked, _ := search.Beam(g, x.V, s.Beam, s.Beam)
	g = samples.CopyGraph(g)
	g.Nodes = append(g.Nodes, api.Node{ID: x.ID, V: slices.Clone(x.V)})
	g.Nodes[own].Out, _ = prune.Keep(g, s, own, looked)
	for _, place := range slices.Clone(g.Nodes[own].Out) {
		out := append(slices.Clone(g.Nodes[place].Out), own)
		if len(out) > s.Degree {
			out, _ = prune.Keep(g, s, place, out)
		}
		g.Nodes[place].Out = out
	}
	return g
}

func plainInsert(g api.Graph, s api.Setup, x api.Item) api.Graph {
	g = plainJoin(g, s, x)
	samples.Mend(g, s)
	return g
}

func plainBuild(s api.Setup, l []api.Item) api.Graph {
	g := api.Graph{}
	for _, x := range l {
		g = plainInsert(g, s, x)
	}
	return g
}

func mustInsert(t *testing.T, g api.Graph, s api.Setup, x api.Item) api.Graph {
	t.Helper()
	grown, e := build.Insert(g, s, x)
	if e != api.OK {
		t.Fatalf("Insert(%v (%d nodes), %+v, %v): %d", samples.TellGraph(g), len(g.Nodes), s, x, e)
	}
	return grown
}

func mustBuild(t *testing.T, s api.Setup, l []api.Item) api.Graph {
	t.Helper()
	g, e := build.Build(s, l)
	if e != api.OK {
		t.Fatalf("Build(%+v, %d items): %d", s, len(l), e)
	}
	return g
}

func checkInsert(t *testing.T, g api.Graph, s api.Setup, x api.Item, want api.Graph) {
	t.Helper()
	grown := mustInsert(t, g, s, x)
	if !samples.SameGraph(grown, want) {
		t.Errorf("Insert(%v (%d nodes), %+v, %v) = %v; want %v", samples.TellGraph(g), len(g.Nodes), s, x, samples.TellGraph(grown), samples.TellGraph(want))
	}
	checkFollows(t, grown, s, append(samples.Items(g), x), g.Start)
}

// checkJoined: the item comes into the graph, and then the nodes have these neighbours.
func checkJoined(t *testing.T, g api.Graph, s api.Setup, x api.Item, outs ...[]int) {
	t.Helper()
	want := samples.Joined(samples.Bare(append(samples.Items(g), x)...), outs...)
	want.Start = g.Start
	checkInsert(t, g, s, x, want)
}

func checkBuild(t *testing.T, s api.Setup, l []api.Item, outs ...[]int) {
	t.Helper()
	g, want := mustBuild(t, s, l), samples.Joined(samples.Bare(l...), outs...)
	if !samples.SameGraph(g, want) {
		t.Errorf("Build(%+v, %v) = %v; want %v", s, l, samples.TellGraph(g), samples.TellGraph(want))
	}
	checkFollows(t, g, s, l, 0)
}

func checkNoInsert(t *testing.T, g api.Graph, s api.Setup, x api.Item, want api.Errno) {
	t.Helper()
	if grown, e := build.Insert(g, s, x); len(grown.Nodes) != 0 || grown.Start != 0 || e != want {
		t.Errorf("Insert(%v (%d nodes), %+v, %v) = %v, %d; want %d", samples.TellGraph(g), len(g.Nodes), s, x, samples.TellGraph(grown), e, want)
	}
}

func checkNoBuild(t *testing.T, s api.Setup, l []api.Item, want api.Errno) {
	t.Helper()
	if g, e := build.Build(s, l); len(g.Nodes) != 0 || g.Start != 0 || e != want {
		t.Errorf("Build(%+v, %d items) = %v, %d; want %d", s, len(l), samples.TellGraph(g), e, want)
	}
}

// P12.1

func TestInsertKnown(t *testing.T) {
	g, s := example(), exampleSetup()
	checkJoined(t, g, s, item(3, 5), []int{1}, []int{2}, []int{1})
	checkJoined(t, g, s, item(3, -5), []int{2}, []int{0}, []int{1})
	checkNoInsert(t, g, s, item(1, 3), api.ErrThere)
	checkNoInsert(t, g, s, item(4, 1, 2), api.ErrArg)
	checkJoined(t, api.Graph{}, s, item(1, 0), nil)
	checkJoined(t, samples.Bare(item(1, 0)), s, item(2, 9), []int{1}, []int{0})
	checkJoined(t, api.Graph{}, s, item(api.MaxNumber, 0), nil)
	checkNoInsert(t, api.Graph{}, s, item(api.MaxNumber+1, 0), api.ErrArg)
}

// Numbers reckoned outside the program.
func TestInsertReckonedOutside(t *testing.T) {
	for _, c := range []struct {
		count, degree, start int
		s                    api.Setup
		want                 [][]int
	}{
		{6, 1, 0, setup(2, 1, 1, 1, 1), [][]int{{3}, {4}, {5}, {6}, {2}, {2}, {1}}},
		{6, 2, 3, setup(2, 2, 2, 1, 1), [][]int{{3, 1}, {4, 0}, {5, 3}, {4, 6}, {1, 3}, {2, 0}, {1, 2}}},
		{9, 1, 4, setup(2, 1, 3, 1, 1), [][]int{{3}, {2}, {8}, {6}, {9}, {7}, {1}, {3}, {5}, {0}}},
		{9, 2, 0, setup(2, 2, 1, 1, 1), [][]int{{1, 4}, {6, 2}, {8, 3}, {9, 6}, {0, 2}, {2, 0}, {0, 1}, {3, 2}, {5, 7}, {3, 0}}},
		{9, 3, 8, setup(2, 3, 4, 2, 1), [][]int{{3, 1, 8}, {9, 6, 4}, {8, 3, 5}, {9, 6}, {0, 2}, {2, 0, 9}, {0, 1, 8}, {3, 2, 6}, {5, 6, 7}, {3, 1, 5}}},
		{9, 3, 2, setup(2, 4, 9, 1000, 1), [][]int{{3, 1, 8}, {6, 2, 3, 9}, {8, 3, 5, 9}, {6, 1, 8, 9}, {0, 2, 7}, {2, 0}, {0, 1, 8}, {3, 2, 6}, {5, 6, 9, 4}, {3, 2, 1, 8}}},
		{20, 1, 19, setup(2, 1, 5, 1, 1), [][]int{{3}, {10}, {17}, {4}, {11}, {18}, {7}, {12}, {20}, {6}, {13}, {1}, {7}, {14}, {2}, {8}, {15}, {5}, {9}, {16}, {0}}},
		{20, 2, 7, setup(2, 2, 5, 6, 5), [][]int{{3, 1}, {10, 6}, {17, 1}, {4, 2}, {11, 1}, {18, 6}, {5, 1}, {12, 20}, {19, 1}, {6, 15}, {13, 1}, {0, 6}, {7, 1}, {14, 6}, {20, 10}, {8, 6}, {1, 0}, {2, 6}, {9, 1}, {16, 6}, {14, 7}}},
		{20, 0, 0, setup(2, 2, 4, 1, 1), [][]int{{20, 1}, {4, 7}, {3, 5}, {}, {9}, {6, 10}, {14}, {8}, {12, 16}, {15, 19}, {11}, {13}, {}, {18}, {}, {17}, {}, {}, {}, {}, {0, 2}}},
		{20, 0, 5, setup(2, 1, 4, 1, 1), [][]int{{1}, {2}, {3}, {4}, {6}, {20}, {7}, {8}, {9}, {10}, {11}, {12}, {13}, {14}, {15}, {16}, {17}, {18}, {19}, {}, {0}}},
	} {
		g, x := ruled(c.count, c.degree, c.start)
		checkJoined(t, g, c.s, x, c.want...)
	}
}

// Into all graphs of up to three nodes, with each Start, an item comes at several places; into those of four, some of which are as far, at one.
func TestInsertIntoEachGraph(t *testing.T) {
	for _, line := range [][]int8{{}, {5}, {5, 3}, {5, 3, 9}, {-2, 2, -6}} {
		for degree := 1; degree <= 2; degree++ {
			samples.Joins(samples.OnLine(line...), degree, func(nth int, g api.Graph) {
				for g.Start = range max(len(line), 1) {
					for _, s := range samples.Setups(1, degree) {
						x := item(99, int8(nth*5%23-7))
						checkInsert(t, g, s, x, plainInsert(g, s, x))
					}
				}
			})
		}
	}
	nodes := samples.Bare(item(8, 6), item(3, 2), item(5, -2), item(1, 9))
	for degree := 1; degree <= 2; degree++ {
		samples.Joins(nodes, degree, func(nth int, g api.Graph) {
			g.Start = nth % 4
			s := samples.Setups(1, degree)[nth%3]
			x := item(4, []int8{0, 6, 2, 10, -3}[nth%5])
			checkInsert(t, g, s, x, plainInsert(g, s, x))
		})
	}
}

func TestInsertIntoDrawnGraphs(t *testing.T) {
	room, noRoom := 0, 0
	for seed := range uint64(250) {
		draw := samples.Drawer(seed)
		dim, degree := 1+int(draw()%4), 1+int(draw()%4)
		g := samples.Web(seed, 1+int(draw()%40), dim, degree)
		for _, s := range samples.Setups(dim, degree) {
			x := item(seed, samples.Noise(draw(), dim)...)
			checkInsert(t, g, s, x, plainInsert(g, s, x))
			a, b := samples.Mend(plainJoin(g, s, x), s)
			room, noRoom = room+a, noRoom+b
		}
	}
	if room < 1000 || noRoom < 1000 {
		t.Errorf("there was room %d times, and none %d times: too few", room, noRoom)
	}
}

// What is looked at may be kept, though the search's list does not hold it at its end; what just comes is not.
func TestInsertKeepsOfWhatIsLookedAt(t *testing.T) {
	g := samples.Joined(samples.OnLine(-20, 10, 3, 4), []int{1}, []int{2, 3}, []int{0}, []int{0})
	checkJoined(t, g, setup(1, 9, 1, 1000, 1), item(9, 0), []int{1, 4}, []int{2, 3, 4}, []int{0, 4}, []int{0}, []int{2, 1, 0})
	checkJoined(t, g, setup(1, 9, 2, 1000, 1), item(9, 0), []int{1, 4}, []int{2, 3, 4}, []int{0, 4}, []int{0, 4}, []int{2, 3, 1, 0})
	checkJoined(t, g, setup(1, 2, 1, 1000, 1), item(9, 0), []int{1}, []int{3, 2}, []int{0, 4}, []int{0}, []int{2, 1})
}

// Neighbours are asked one behind the other, each of the graph as it is then; one that has too many keeps those that its measure lets it keep.
func TestInsertPrunesNeighbours(t *testing.T) {
	g := samples.Joined(samples.OnLine(0, 10, -10, 30), []int{1, 2}, []int{0, 3}, []int{0}, []int{1, 0})
	checkJoined(t, g, setup(1, 2, 9, 1, 1), item(9, 5), []int{4, 2}, []int{4, 3}, []int{0}, []int{1, 0}, []int{0, 1})
	checkJoined(t, g, setup(1, 2, 9, 1000, 1), item(9, 4), []int{4, 1}, []int{4, 0}, []int{0, 3}, []int{1, 0}, []int{0, 2})
	checkJoined(t, g, setup(1, 3, 9, 1, 1), item(9, 5), []int{1, 2, 4}, []int{0, 3, 4}, []int{0}, []int{1, 0}, []int{0, 1})
}

// All numbers that a vector may have, of each length.
func TestInsertOfEachDim(t *testing.T) {
	for dim := 1; dim <= api.MaxDim; dim++ {
		g, s := samples.Web(uint64(dim), 9, dim, 2), setup(dim, 2, 4, 6, 5)
		for _, v := range [][]int8{samples.Filled(dim, -128), samples.Filled(dim, 127), samples.Noise(1, dim)} {
			checkInsert(t, g, s, item(7, v...), plainInsert(g, s, item(7, v...)))
		}
		for size := range api.MaxDim + 3 {
			if size != dim {
				checkNoInsert(t, g, s, item(7, make([]int8, size)...), api.ErrArg)
				checkNoInsert(t, api.Graph{}, s, item(7, make([]int8, size)...), api.ErrArg)
			}
		}
		checkNoInsert(t, g, s, item(7, make([]int8, dim+256)...), api.ErrArg)
	}
}

func TestInsertOfEachID(t *testing.T) {
	g, s := samples.Web(1, 9, 2, 3), setup(2, 3, 4, 6, 5)
	g.Nodes[3].ID, g.Nodes[8].ID = api.MaxNumber-1, 0
	for _, id := range []uint64{1, 1 << 32, 1<<62 - 1} {
		checkInsert(t, g, s, item(id, 5, 6), plainInsert(g, s, item(id, 5, 6)))
	}
	for _, id := range []uint64{1 << 62, 1<<62 + 1, 1 << 63, math.MaxUint64} {
		checkNoInsert(t, g, s, item(id, 5, 6), api.ErrArg)
		checkNoInsert(t, api.Graph{}, s, item(id, 5, 6), api.ErrArg)
	}
	for _, node := range g.Nodes {
		checkNoInsert(t, g, s, item(node.ID, 5, 6), api.ErrThere)
		checkNoInsert(t, g, s, item(node.ID, 5), api.ErrArg)
		checkNoInsert(t, g, setup(2, 3, 0, 6, 5), item(node.ID, 5, 6), api.ErrArg)
	}
}

func TestInsertIntoAFullGraph(t *testing.T) {
	g, s := samples.Web(1, api.MaxItems, 2, 5), setup(2, 5, 4, 6, 5)
	last := g.Nodes[api.MaxItems-1]
	checkNoInsert(t, g, s, item(7, 1, 2), api.ErrFull)
	checkNoInsert(t, g, s, item(7, 1), api.ErrArg)
	checkNoInsert(t, g, s, item(api.MaxNumber+1, 1, 2), api.ErrArg)
	checkNoInsert(t, g, s, item(last.ID, 1, 2), api.ErrThere)
	checkGrows(t, g, s, item(7, 1, 2))
	g, s = samples.FullGraph(), samples.MostSetup()
	far := samples.Filled(api.MaxDim, 127)
	checkNoInsert(t, g, s, item(7, far...), api.ErrFull)
	checkNoInsert(t, g, s, item(api.MaxNumber, far...), api.ErrThere)
	checkGrows(t, g, s, item(7, far...))
}

// checkGrows: there is room for the item, if one node of the graph goes, whichever it is.
func checkGrows(t *testing.T, g api.Graph, s api.Setup, x api.Item) {
	t.Helper()
	for _, place := range []int{0, 7, len(g.Nodes) - 1} {
		left, _ := graph.Drop(g, []int{place})
		checkFollows(t, mustInsert(t, left, s, x), s, append(samples.Items(left), x), left.Start)
	}
}

func TestInsertRefusesSetups(t *testing.T) {
	for _, s := range samples.WrongSetups() {
		for _, g := range []api.Graph{{}, example(), samples.Bare(item(1, 0))} {
			checkNoInsert(t, g, s, item(7, 5), api.ErrArg)
			checkNoInsert(t, g, s, item(1, 5), api.ErrArg)
			checkNoInsert(t, g, s, item(7, make([]int8, max(0, min(s.Dim, 99)))...), api.ErrArg)
		}
	}
}

// A graph that may not be, wherever the fault is; and one that may not be for this setup.
func TestInsertRefusesGraphs(t *testing.T) {
	g, s := samples.Web(1, 9, 3, 4), setup(3, 4, 6, 6, 5)
	g.Nodes[4].Out = []int{8, 0, 2, 7}
	x := item(7, 1, 2, 3)
	checkInsert(t, g, s, x, plainInsert(g, s, x))
	for _, fault := range samples.Faults(g, 4) {
		checkNoInsert(t, fault.Graph, s, x, api.ErrArg)
		checkNoInsert(t, fault.Graph, s, item(g.Nodes[0].ID, 1, 2, 3), api.ErrArg)
	}
	checkNoInsert(t, g, setup(3, 3, 6, 6, 5), x, api.ErrArg)
	checkNoInsert(t, g, setup(4, 4, 6, 6, 5), item(7, 1, 2, 3, 4), api.ErrArg)
	checkNoInsert(t, g, setup(4, 4, 6, 6, 5), x, api.ErrArg)
	for _, start := range append(samples.FarNumbers(), 1) {
		checkNoInsert(t, api.Graph{Start: start}, s, x, api.ErrArg)
	}
}

// P12.2

func TestBuildKnown(t *testing.T) {
	s := exampleSetup()
	checkBuild(t, s, []api.Item{item(1, 0), item(2, 9)}, []int{1}, []int{0})
	checkBuild(t, s, []api.Item{item(1, 0), item(2, 9), item(3, 5)}, []int{1}, []int{2}, []int{1})
	checkBuild(t, s, []api.Item{item(1, 0), item(2, 9), item(3, -5)}, []int{2}, []int{0}, []int{1})
	checkBuild(t, s, nil)
	checkBuild(t, s, []api.Item{})
	checkBuild(t, s, []api.Item{item(0, -128)}, nil)
	checkNoBuild(t, s, []api.Item{item(1, 0), item(1, 2)}, api.ErrThere)
	checkNoBuild(t, s, []api.Item{item(1, 0), item(2, 1, 2)}, api.ErrArg)
	checkNoBuild(t, api.Setup{}, nil, api.ErrArg)
}

// Numbers reckoned outside the program.
func TestBuildReckonedOutside(t *testing.T) {
	for _, c := range []struct {
		count int
		s     api.Setup
		want  [][]int
	}{
		{5, setup(2, 1, 1, 1, 1), [][]int{{1}, {4}, {3}, {2}, {2}}},
		{5, setup(2, 2, 4, 1, 1), [][]int{{1}, {4, 0}, {1, 3}, {2, 4}, {1, 3}}},
		{8, setup(2, 1, 4, 1, 1), [][]int{{1}, {7}, {3}, {5}, {2}, {6}, {4}, {2}}},
		{8, setup(2, 2, 1, 1, 1), [][]int{{1, 5}, {7, 4}, {1, 3}, {2, 1}, {1, 2}, {1, 6}, {5}, {1}}},
		{8, setup(2, 2, 3, 2, 1), [][]int{{1}, {7, 4}, {3, 5}, {2, 4}, {1, 3}, {6, 2}, {5, 2}, {1, 4}}},
		{8, setup(2, 3, 8, 6, 5), [][]int{{1, 6}, {7, 4, 0}, {1, 3, 5}, {2, 1, 4}, {1, 3}, {6, 7, 2}, {5, 0}, {1, 5}}},
		{12, setup(2, 1, 1, 1, 1), [][]int{{1}, {7}, {3}, {9}, {8}, {6}, {10}, {2}, {5}, {4}, {11}, {2}}},
		{12, setup(2, 1, 12, 1, 1), [][]int{{1}, {7}, {3}, {5}, {9}, {6}, {4}, {2}, {10}, {8}, {11}, {10}}},
		{12, setup(2, 2, 2, 1, 1), [][]int{{1, 8}, {7, 8}, {3, 11}, {2, 9}, {1, 2}, {6, 10}, {5, 4}, {1, 9}, {1, 0}, {3, 7}, {11, 5}, {10, 2}}},
		{12, setup(2, 2, 12, 1000, 1), [][]int{{1, 4}, {7, 8}, {3, 11}, {2, 9}, {9, 1}, {6, 10}, {5, 2}, {1, 2}, {1, 7}, {4, 3}, {11, 5}, {10, 2}}},
		{12, setup(2, 4, 6, 3, 2), [][]int{{1, 8}, {7, 8, 4}, {3, 11, 1}, {2, 1, 4, 9}, {1, 3, 9}, {6, 7, 2, 10}, {5, 1, 11}, {1, 5, 9}, {1, 0, 5}, {4, 3, 7, 11}, {5, 2, 1, 11}, {10, 2, 9, 6}}},
		{12, setup(2, 32, 256, 1, 1), [][]int{{1, 8}, {0, 2, 3, 4, 5, 7, 8}, {1, 3, 5, 10, 11}, {2, 1, 4, 9}, {1, 3, 9}, {2, 1, 6, 7, 10}, {5, 8}, {1, 5, 11}, {1, 0, 6}, {4, 3}, {5, 2, 11}, {10, 2, 7}}},
	} {
		checkBuild(t, c.s, samples.Items(samples.Ruled(c.count)), c.want...)
	}
}

// How many neighbours there are, and a sum of which ones they are, reckoned outside the program.
func TestBuildOfManyReckonedOutside(t *testing.T) {
	for _, c := range []struct {
		count     int
		s         api.Setup
		many, sum int
	}{
		{97, setup(2, 1, 1, 1, 1), 97, 149066},
		{97, setup(2, 1, 50, 1, 1), 97, 149006},
		{97, setup(2, 2, 1, 1, 1), 193, 439367},
		{97, setup(2, 2, 4, 1, 1), 194, 445075},
		{97, setup(2, 2, 20, 2, 1), 194, 445593},
		{97, setup(2, 3, 8, 6, 5), 276, 805663},
		{97, setup(2, 4, 10, 3, 2), 373, 1394562},
		{97, setup(2, 8, 30, 6, 5), 530, 2611589},
		{97, setup(2, 32, 100, 1000, 1), 3104, 78574685},
		{97, setup(2, 32, 3, 2, 1), 559, 2243651},
		{97, setup(2, 5, 256, 1000, 999), 368, 1336800},
		{60, setup(2, 6, 2, 4, 1), 273, 674172},
	} {
		l := samples.Items(samples.Ruled(c.count))
		g := mustBuild(t, c.s, l)
		many, sum := 0, 0
		for place, node := range g.Nodes {
			for i, next := range node.Out {
				many++
				sum += (31*place + next) * (i + 1)
			}
		}
		if many != c.many || sum != c.sum {
			t.Errorf("%d, %+v: %d, %d; want %d, %d", c.count, c.s, many, sum, c.many, c.sum)
		}
		checkFollows(t, g, c.s, l, 0)
	}
}

// One behind the other: Build of some items, and Insert of the others; and all as the document's words say.
func TestBuildAndInsert(t *testing.T) {
	for seed := range uint64(20) {
		dim, degree := 1+int(seed%3), 1+int(seed%4)
		l := samples.Items(samples.Web(seed, 40, dim, 0))
		for _, s := range samples.Setups(dim, degree) {
			g := api.Graph{}
			for i, x := range l {
				if i%13 == 0 {
					checkBuild(t, s, l[:i], outsOf(g)...)
				}
				g = mustInsert(t, g, s, x)
			}
			checkBuild(t, s, l, outsOf(g)...)
			checkBuild(t, s, l, outsOf(plainBuild(s, l))...)
		}
	}
}

func outsOf(g api.Graph) [][]int {
	var outs [][]int
	for _, node := range g.Nodes {
		outs = append(outs, node.Out)
	}
	return outs
}

// The order of items counts: all orders of a few, two of which have one vector.
func TestBuildOfEachOrder(t *testing.T) {
	unlike := map[string]int{}
	samples.Orders([]api.Item{item(3, 5), item(1, 0), item(2, 5), item(9, -7), item(4, 12)}, func(l []api.Item) {
		for _, s := range samples.Setups(1, 1) {
			checkBuild(t, s, l, outsOf(plainBuild(s, l))...)
		}
		far := ""
		for _, node := range mustBuild(t, setup(1, 2, 2, 1, 1), l).Nodes {
			far += string(rune('a' + len(node.Out)))
		}
		unlike[far]++
	})
	if len(unlike) < 2 {
		t.Errorf("%v", unlike)
	}
}

// All items have one vector: of what is looked at just one is kept.
func TestBuildOfSameVectors(t *testing.T) {
	var l []api.Item
	for i := range 50 {
		l = append(l, item(uint64(100-i), 3, 4))
	}
	for degree := 1; degree <= 4; degree++ {
		for _, s := range samples.Setups(2, degree) {
			checkBuild(t, s, l, outsOf(plainBuild(s, l))...)
		}
	}
}

func TestBuildRefuses(t *testing.T) {
	l := samples.Items(samples.Web(1, 9, 3, 0))
	s := setup(3, 2, 4, 6, 5)
	checkBuild(t, s, l, outsOf(plainBuild(s, l))...)
	for place := range l {
		for _, wrong := range []api.Item{{}, item(7), item(7, 1, 2), item(7, 1, 2, 3, 4), item(api.MaxNumber+1, 1, 2, 3), item(math.MaxUint64, 1, 2, 3)} {
			bent := slices.Clone(l)
			bent[place] = wrong
			checkNoBuild(t, s, bent, api.ErrArg)
			checkNoBuild(t, s, append(bent, l...), api.ErrArg)
		}
		for other := range l[:place] {
			bent := slices.Clone(l)
			bent[place].ID = bent[other].ID
			checkNoBuild(t, s, bent, api.ErrThere)
			bent[8].V = nil
			checkNoBuild(t, s, bent, api.ErrArg)
		}
	}
	for _, wrong := range samples.WrongSetups() {
		checkNoBuild(t, wrong, nil, api.ErrArg)
		checkNoBuild(t, wrong, []api.Item{item(1, 0)}, api.ErrArg)
		checkNoBuild(t, wrong, []api.Item{item(1, 0), item(1, 0)}, api.ErrArg)
	}
	for dim := 1; dim <= api.MaxDim; dim++ {
		checkBuild(t, samples.LeastSetup(dim), []api.Item{item(1, make([]int8, dim)...)}, nil)
		checkNoBuild(t, samples.LeastSetup(dim), []api.Item{item(1, make([]int8, dim+1)...)}, api.ErrArg)
		checkNoBuild(t, samples.LeastSetup(dim), []api.Item{item(1, make([]int8, dim-1)...)}, api.ErrArg)
	}
}

func TestBuildAtTheLimits(t *testing.T) {
	l := samples.Items(samples.Web(1, api.MaxItems+1, 2, 0))
	for _, s := range []api.Setup{samples.LeastSetup(2), setup(2, 3, 5, 6, 5)} {
		checkFollows(t, mustBuild(t, s, l[:api.MaxItems]), s, l[:api.MaxItems], 0)
		checkNoBuild(t, s, l, api.ErrFull)
		checkNoBuild(t, s, append(slices.Clone(l), l[2000]), api.ErrThere)
		checkNoBuild(t, s, append(slices.Clone(l), item(7)), api.ErrArg)
	}
	l = samples.Items(samples.Web(1, api.MaxItems, api.MaxDim, 0))
	l[2047].ID, l[2047].V = api.MaxNumber, samples.Filled(api.MaxDim, -128)
	checkFollows(t, mustBuild(t, samples.MostSetup(), l), samples.MostSetup(), l, 0)
}

// P12.3

// checkFollows: the graph may be; its nodes are the items, in order; each is reached, from the Start.
func checkFollows(t *testing.T, g api.Graph, s api.Setup, l []api.Item, start int) {
	t.Helper()
	if !samples.SameItems(samples.Items(g), l) || g.Start != start || !graph.Check(g, s) {
		t.Errorf("%+v: of %d items it is %v", s, len(l), samples.TellGraph(g))
	}
	if reached, e := graph.Reached(g); len(reached) != len(l) || e != api.OK {
		t.Errorf("%+v: %d of %d are reached: %v", s, len(reached), len(l), samples.TellGraph(g))
	}
}

// A search that is as wide as there are nodes finds all of them.
func TestWideBeamFindsTheNearest(t *testing.T) {
	for seed := range uint64(10) {
		l := samples.Items(samples.Web(seed, 200, 3, 0))
		g := mustBuild(t, setup(3, 1+int(seed%4), 5, 6, 5), l)
		for _, k := range []int{1, 20, 200} {
			exact, _ := search.Exact(g, samples.Noise(seed+50, 3), k)
			if hits, _, _ := search.Beam(g, samples.Noise(seed+50, 3), k, 200); !slices.Equal(hits, exact) || len(hits) != k {
				t.Errorf("seed %d: %v; want %v", seed, hits, exact)
			}
		}
	}
}

// R4, R5

func TestArgumentsStayAsTheyAre(t *testing.T) {
	g, look := samples.RoomyGraph(samples.Web(1, 30, 4, 3))
	v := samples.Noise(3, 9)
	x, ahead, room := item(7, v[:4]...), look(), slices.Clone(v)
	for range 2 {
		for _, s := range samples.Setups(4, 3) {
			mustInsert(t, g, s, x)
			checkNoInsert(t, g, s, item(7, v...), api.ErrArg)
			checkNoInsert(t, g, s, item(g.Nodes[3].ID, v[:4]...), api.ErrThere)
		}
	}
	if !samples.SameGraph(look(), ahead) || !slices.Equal(v, room) || x.ID != 7 || len(x.V) != 4 {
		t.Errorf("the graph is %v, the item %v; they were %v, %v", look(), x, ahead, room)
	}
	list, look2 := samples.Roomy(1, 30, 4)
	seen := look2()
	var l []api.Item
	for i, v := range list {
		l = append(l, item(uint64(i), v...))
		l[i].V = v
	}
	all, part := slices.Clone(l), l[:20]
	for _, s := range samples.Setups(4, 3) {
		mustBuild(t, s, part)
		checkNoBuild(t, s, append(slices.Clone(part), part[0]), api.ErrThere)
	}
	for i, x := range l {
		if x.ID != all[i].ID || &x.V[0] != &all[i].V[0] || len(x.V) != 4 {
			t.Errorf("%d: %v", i, x)
		}
	}
	if !samples.Same(look2(), seen) {
		t.Errorf("the vectors are %v; they were %v", look2(), seen)
	}
}

// What stands in a list's spare room does not count.
func TestSpareRoomDoesNotCount(t *testing.T) {
	for seed := range uint64(20) {
		plain := samples.Web(seed, 30, 4, 3)
		g, _ := samples.RoomyGraph(plain)
		v := samples.Noise(seed, 9)
		for _, s := range samples.Setups(4, 3) {
			checkInsert(t, g, s, item(7, v[:4]...), plainInsert(plain, s, item(7, v[:4]...)))
			checkNoInsert(t, g, s, item(7, v[:3]...), api.ErrArg)
		}
	}
	full, _ := samples.RoomyGraph(samples.Web(1, api.MaxItems-1, 1, 2))
	checkFollows(t, mustInsert(t, full, setup(1, 2, 4, 6, 5), item(1, 5)), setup(1, 2, 4, 6, 5), append(samples.Items(full), item(1, 5)), full.Start)
	none, _ := samples.RoomyGraph(api.Graph{})
	checkJoined(t, none, exampleSetup(), item(1, 5), nil)
	l := []api.Item{item(1, 0), item(2, 9), item(1, 3)}
	checkBuild(t, exampleSetup(), l[:2], []int{1}, []int{0})
}

// Whatever is done to an answer: what was handed in stays, and other answers do.
func TestAnswersShareNoMemory(t *testing.T) {
	plain := samples.Web(1, 30, 4, 3)
	g, look := samples.RoomyGraph(plain)
	v, l := samples.Noise(3, 9), samples.Items(plain)
	ahead, room := look(), slices.Clone(v)
	for _, s := range samples.Setups(4, 3) {
		want, built := plainInsert(plain, s, item(7, v[:4]...)), plainBuild(s, l)
		for range 2 {
			grown, other := mustInsert(t, g, s, item(7, v[:4]...)), mustInsert(t, g, s, item(7, v[:4]...))
			samples.SpoilGraph(grown)
			if !samples.SameGraph(other, want) || !samples.SameGraph(look(), ahead) || !slices.Equal(v, room) {
				t.Fatalf("%v, %v, %v", other, look(), v)
			}
			grown, other = mustBuild(t, s, l), mustBuild(t, s, l)
			samples.SpoilGraph(grown)
			if !samples.SameGraph(other, built) {
				t.Fatalf("%v; want %v", other, built)
			}
			checkBuild(t, s, l, outsOf(built)...)
			checkInsert(t, g, s, item(7, v[:4]...), want)
		}
	}
}

// What was handed in may be changed: an answer stays.
func TestAnswersKeepNoArgument(t *testing.T) {
	plain := samples.Web(1, 30, 4, 3)
	for _, s := range samples.Setups(4, 3) {
		g, _ := samples.RoomyGraph(plain)
		v, l := samples.Noise(3, 4), samples.Items(samples.CopyGraph(plain))
		want, built := plainInsert(plain, s, item(7, v...)), plainBuild(s, samples.Items(plain))
		grown, all := mustInsert(t, g, s, item(7, v...)), mustBuild(t, s, l)
		samples.SpoilGraph(g)
		clear(v)
		for _, x := range l {
			clear(x.V)
		}
		clear(l)
		if !samples.SameGraph(grown, want) || !samples.SameGraph(all, built) {
			t.Errorf("%v, %v; want %v, %v", grown, all, want, built)
		}
	}
}

// No two lists of a graph that is answered share memory, though those that are handed in do.
func TestListsOfAnAnswerShareNoMemory(t *testing.T) {
	v, out := samples.Noise(1, 9), []int{2, 1, 3, 0}
	g := samples.Linked(0, out[:3], out[2:], out[3:], out[:2], out, out[:0])
	for i := range g.Nodes {
		g.Nodes[i].V = v[i : i+4]
	}
	for _, s := range append(samples.Setups(4, 4), samples.Setups(4, 5)...) {
		x := item(7, v[2:6]...)
		if shared := samples.SharedLists(func() api.Graph { return mustInsert(t, g, s, x) }); len(shared) > 0 {
			t.Errorf("%+v: the nodes %v share", s, shared)
		}
	}
	var l []api.Item
	for i := range 25 {
		l = append(l, api.Item{ID: uint64(i), V: v[i%5 : i%5+4]})
	}
	for _, s := range samples.Setups(4, 1) {
		if shared := samples.SharedLists(func() api.Graph { return mustBuild(t, s, l) }); len(shared) > 0 {
			t.Errorf("%+v: the nodes %v share", s, shared)
		}
	}
}

// An answer hangs on what is handed in alone, not on the calls ahead of it.
func TestCallsAheadChangeNothing(t *testing.T) {
	big, x := ruled(60, 2, 5)
	s := setup(2, 2, 4, 1, 1)
	want := plainInsert(big, s, x)
	for range 3 {
		checkJoined(t, example(), exampleSetup(), item(3, -5), []int{2}, []int{0}, []int{1})
		checkInsert(t, big, s, x, want)
		checkNoInsert(t, big, s, item(big.Nodes[7].ID, 1, 2), api.ErrThere)
		checkBuild(t, exampleSetup(), []api.Item{item(1, 0), item(2, 9)}, []int{1}, []int{0})
		checkNoBuild(t, api.Setup{}, nil, api.ErrArg)
	}
}

// Calls that run side by side don't meet.
func TestCallsSideBySide(t *testing.T) {
	l := samples.Items(samples.Ruled(50))
	done := make(chan int)
	for n := range 20 {
		go func() {
			s := setup(2, 1+n%4, 3, 6, 5)
			g, _ := build.Build(s, l[:30+n])
			if grown, e := build.Insert(g, s, item(98, int8(n), 5)); e != api.OK || !samples.SameGraph(g, plainBuild(s, l[:30+n])) || !samples.SameGraph(grown, plainInsert(g, s, item(98, int8(n), 5))) {
				t.Errorf("%d: %v, %d", n, samples.TellGraph(grown), e)
			}
			done <- n
		}()
	}
	for range 20 {
		<-done
	}
}

// FuzzBuild holds both calls, of a graph and of items that are made of bytes, against the plain ones.
func FuzzBuild(f *testing.F) {
	f.Add([]byte{1, 10, 2, 3}, []byte{4, 5, 6}, 1, 1, 1, 1, 1, 7)
	f.Add([]byte{9, 17, 0, 4, 0, 0, 1, 7, 0, 2, 9, 9, 9, 9, 9, 9, 9, 9, 9, 9, 9, 9, 30, 5, 4, 3, 2, 1, 0}, []byte{0}, 1, 4, 256, 1000, 1, 1<<62-1)
	f.Add([]byte{5, 6, 1, 2, 3, 4, 0, 5, 6, 0, 0, 255, 12}, []byte{200, 100}, 2, 3, 4, 6, 5, math.MinInt)
	f.Fuzz(func(t *testing.T, bytes, numbers []byte, dim, degree, beam, num, den, id int) {
		g, s := samples.BentGraph(samples.Bytes(bytes)), setup(dim, degree, beam, num, den)
		x := item(uint64(id))
		for _, n := range numbers {
			x.V = append(x.V, int8(n))
		}
		there := slices.ContainsFunc(g.Nodes, func(node api.Node) bool { return node.ID == x.ID })
		switch {
		case !graph.Check(g, s) || x.ID > 1<<62-1 || len(x.V) != dim:
			checkNoInsert(t, g, s, x, api.ErrArg)
		case there:
			checkNoInsert(t, g, s, x, api.ErrThere)
		default:
			checkInsert(t, g, s, x, plainInsert(g, s, x))
		}
		var l []api.Item
		for i, v := range samples.Cut(numbers, max(1, min(dim, 70))) {
			l = append(l, item(uint64(id+i*i%40), v...))
		}
		unlike, wrong := map[uint64]bool{}, false
		for _, x := range l {
			unlike[x.ID] = true
			wrong = wrong || x.ID > 1<<62-1 || len(x.V) != dim
		}
		switch {
		case !graph.Setup(s) || wrong:
			checkNoBuild(t, s, l, api.ErrArg)
		case len(unlike) < len(l):
			checkNoBuild(t, s, l, api.ErrThere)
		case len(l) <= 100:
			checkBuild(t, s, l, outsOf(plainBuild(s, l))...)
		}
	})
}

func BenchmarkInsert(b *testing.B) {
	g := samples.Web(1, api.MaxItems-1, api.MaxDim, api.MaxDegree)
	for b.Loop() {
		build.Insert(g, setup(api.MaxDim, api.MaxDegree, 64, 6, 5), item(7, make([]int8, api.MaxDim)...))
	}
}

// Nothing leads to any node but the one at Start.
func BenchmarkInsertIntoLooseNodes(b *testing.B) {
	g := samples.Web(1, api.MaxItems-1, api.MaxDim, 0)
	for b.Loop() {
		build.Insert(g, setup(api.MaxDim, 1, 64, 6, 5), item(7, make([]int8, api.MaxDim)...))
	}
}

func BenchmarkBuild(b *testing.B) {
	l := samples.Items(samples.Web(1, api.MaxItems, api.MaxDim, 0))
	for b.Loop() {
		build.Build(setup(api.MaxDim, api.MaxDegree, 64, 6, 5), l)
	}
}

func BenchmarkBuildOfTheMost(b *testing.B) {
	l := samples.Items(samples.Web(1, api.MaxItems, api.MaxDim, 0))
	for b.Loop() {
		build.Build(setup(api.MaxDim, api.MaxDegree, api.MaxHits, api.MaxAlpha, 1), l)
	}
}
