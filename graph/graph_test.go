package graph_test

import (
	"math"
	"slices"
	"testing"

	"lodestone/api"
	"lodestone/graph"
	"lodestone/samples"
)

// example is the chapter's graph.
func example() api.Graph {
	return api.Graph{Nodes: []api.Node{{ID: 7, V: []int8{0}, Out: []int{1}}, {ID: 8, V: []int8{1}, Out: []int{2}}, {ID: 9, V: []int8{2}}, {ID: 10, V: []int8{3}, Out: []int{0}}}}
}

// plainSetup is the document's words.
func plainSetup(s api.Setup) bool {
	return s.Dim >= 1 && s.Dim <= 64 && s.Degree >= 1 && s.Degree <= 32 && s.Beam >= 1 && s.Beam <= 256 &&
		s.Num >= 1 && s.Num <= 1000 && s.Den >= 1 && s.Den <= 1000 && s.Den <= s.Num
}

// plainTogether likewise.
func plainTogether(g api.Graph) bool {
	if len(g.Nodes) > 2048 || g.Start < 0 || g.Start > 0 && g.Start >= len(g.Nodes) {
		return false
	}
	return !slices.ContainsFunc(g.Nodes, func(node api.Node) bool {
		return slices.ContainsFunc(node.Out, func(place int) bool { return place < 0 || place >= len(g.Nodes) })
	})
}

// plainCheck likewise; each node is held against each other one.
func plainCheck(g api.Graph, s api.Setup) bool {
	if !plainSetup(s) || !plainTogether(g) {
		return false
	}
	for own, node := range g.Nodes {
		if node.ID > 1<<62-1 || len(node.V) != s.Dim || len(node.Out) > s.Degree || slices.Contains(node.Out, own) {
			return false
		}
		if unlike := slices.Compact(slices.Sorted(slices.Values(node.Out))); len(unlike) != len(node.Out) {
			return false
		}
		for _, other := range g.Nodes[:own] {
			if other.ID == node.ID {
				return false
			}
		}
	}
	return true
}

// plainReached goes on until nothing more is reached.
func plainReached(g api.Graph) []int {
	reached := map[int]bool{}
	if len(g.Nodes) > 0 {
		reached[g.Start] = true
	}
	for ahead := -1; ahead < len(reached); {
		ahead = len(reached)
		for place, node := range g.Nodes {
			for _, next := range node.Out {
				if reached[place] {
					reached[next] = true
				}
			}
		}
	}
	var places []int
	for place := range g.Nodes {
		if reached[place] {
			places = append(places, place)
		}
	}
	return places
}

// plainHops asks for each number of steps which nodes have a neighbour there that has none yet.
func plainHops(g api.Graph) []int {
	hops := make([]int, len(g.Nodes))
	for place := range hops {
		if hops[place] = -1; place == g.Start {
			hops[place] = 0
		}
	}
	for n := range g.Nodes {
		for place, node := range g.Nodes {
			for _, next := range node.Out {
				if hops[place] == n && hops[next] == -1 {
					hops[next] = n + 1
				}
			}
		}
	}
	return hops
}

// plainDrop counts for each place how many go ahead of it.
func plainDrop(g api.Graph, dropped []int) api.Graph {
	behind := func(place int) int {
		ahead := 0
		for _, other := range dropped {
			if other < place {
				ahead++
			}
		}
		return place - ahead
	}
	left := api.Graph{}
	for place, node := range g.Nodes {
		if slices.Contains(dropped, place) {
			continue
		}
		var out []int
		for _, next := range node.Out {
			if !slices.Contains(dropped, next) {
				out = append(out, behind(next))
			}
		}
		left.Nodes = append(left.Nodes, api.Node{ID: node.ID, V: node.V, Out: out})
		if place == g.Start {
			left.Start = behind(place)
		}
	}
	return left
}

func checkSetup(t *testing.T, s api.Setup, want bool) {
	t.Helper()
	if ok := graph.Setup(s); ok != want {
		t.Errorf("Setup(%+v) = %t", s, ok)
	}
}

func checkGraph(t *testing.T, g api.Graph, s api.Setup, want bool) {
	t.Helper()
	if ok := graph.Check(g, s); ok != want {
		t.Errorf("Check(%v (%d nodes), %+v) = %t", samples.TellGraph(g), len(g.Nodes), s, ok)
	}
}

func checkFind(t *testing.T, g api.Graph, id uint64, want int) {
	t.Helper()
	if place := graph.Find(g, id); place != want {
		t.Errorf("Find(%v (%d nodes), %d) = %d; want %d", samples.TellGraph(g), len(g.Nodes), id, place, want)
	}
}

// checkHops holds Hops against what is wanted, and Reached against those that have a way.
func checkHops(t *testing.T, g api.Graph, want ...int) {
	t.Helper()
	if hops, e := graph.Hops(g); !slices.Equal(hops, want) || e != api.OK {
		t.Errorf("Hops(%v (%d nodes)) = %v, %d; want %v", samples.TellGraph(g), len(g.Nodes), hops, e, want)
	}
	var places []int
	for place, n := range want {
		if n >= 0 {
			places = append(places, place)
		}
	}
	checkReached(t, g, places...)
}

func checkReached(t *testing.T, g api.Graph, want ...int) {
	t.Helper()
	if places, e := graph.Reached(g); !slices.Equal(places, want) || e != api.OK {
		t.Errorf("Reached(%v (%d nodes)) = %v, %d; want %v", samples.TellGraph(g), len(g.Nodes), places, e, want)
	}
}

// checkWalks holds both calls against the plain reckonings.
func checkWalks(t *testing.T, g api.Graph) {
	t.Helper()
	checkHops(t, g, plainHops(g)...)
	checkReached(t, g, plainReached(g)...)
}

func checkDrop(t *testing.T, g api.Graph, places []int, want api.Graph) {
	t.Helper()
	if left, e := graph.Drop(g, places); !samples.SameGraph(left, want) || e != api.OK {
		t.Errorf("Drop(%v (%d nodes), %v) = %v, %d; want %v", samples.TellGraph(g), len(g.Nodes), places, samples.TellGraph(left), e, samples.TellGraph(want))
	}
}

func checkNoDrop(t *testing.T, g api.Graph, places ...int) {
	t.Helper()
	if left, e := graph.Drop(g, places); len(left.Nodes) != 0 || left.Start != 0 || e != api.ErrArg {
		t.Errorf("Drop(%v (%d nodes), %v) = %v, %d", samples.TellGraph(g), len(g.Nodes), places, samples.TellGraph(left), e)
	}
}

// checkApart: all calls refuse a graph that does not hold together.
func checkApart(t *testing.T, g api.Graph) {
	t.Helper()
	if hops, e := graph.Hops(g); len(hops) != 0 || e != api.ErrArg {
		t.Errorf("Hops(%v (%d nodes)) = %v, %d", samples.TellGraph(g), len(g.Nodes), hops, e)
	}
	if places, e := graph.Reached(g); len(places) != 0 || e != api.ErrArg {
		t.Errorf("Reached(%v (%d nodes)) = %v, %d", samples.TellGraph(g), len(g.Nodes), places, e)
	}
	checkNoDrop(t, g)
	checkNoDrop(t, g, 0)
	checkNoDrop(t, g, samples.UpTo(len(g.Nodes))...)
	checkNoDrop(t, g, len(g.Nodes))
	checkNoDrop(t, g, 0, 0)
	checkGraph(t, g, samples.WideSetup(1), false)
}

func mustHops(t *testing.T, g api.Graph) []int {
	t.Helper()
	hops, e := graph.Hops(g)
	if e != api.OK {
		t.Fatalf("Hops(%v): %d", samples.TellGraph(g), e)
	}
	return hops
}

func mustReach(t *testing.T, g api.Graph) []int {
	t.Helper()
	places, e := graph.Reached(g)
	if e != api.OK {
		t.Fatalf("Reached(%v): %d", samples.TellGraph(g), e)
	}
	return places
}

func mustDrop(t *testing.T, g api.Graph, places ...int) api.Graph {
	t.Helper()
	left, e := graph.Drop(g, places)
	if e != api.OK {
		t.Fatalf("Drop(%v, %v): %d", samples.TellGraph(g), places, e)
	}
	return left
}

// graphs calls f with each graph of so many nodes, whose neighbours stand rising, and with each Start.
func graphs(count int, f func(api.Graph)) {
	var outs [][]int
	samples.Subsets(count, func(out []int) { outs = append(outs, out) })
	own := make([][]int, count)
	var put func(int)
	put = func(at int) {
		if at == count {
			for start := range max(count, 1) {
				f(samples.Linked(start, own...))
			}
			return
		}
		for _, out := range outs {
			own[at] = out
			put(at + 1)
		}
	}
	put(0)
}

// line makes a graph in which each node leads to the next one.
func line(count int) api.Graph {
	g := samples.Web(1, count, 1, 0)
	for i := range count - 1 {
		g.Nodes[i].Out = []int{i + 1}
	}
	g.Start = 0
	return g
}

// ruled makes a graph of one number a vector, by a rule that the numbers reckoned outside know too.
func ruled(count, start int) api.Graph {
	outs := make([][]int, count)
	for i := range outs {
		out := []int{(7*i + 3) % count}
		if i%3 == 0 {
			out = append(out, (i*i+1)%count)
		}
		if i%5 == 2 {
			out = append(out, (i+11)%count)
		}
		if i%4 != 1 {
			outs[i] = out
		}
	}
	return samples.Linked(start, outs...)
}

// P9.1

func TestSetupKnown(t *testing.T) {
	checkSetup(t, samples.LeastSetup(1), true)
	checkSetup(t, samples.MostSetup(), true)
	checkSetup(t, api.Setup{Dim: 2, Degree: 3, Beam: 4, Num: 6, Den: 5}, true)
	checkSetup(t, api.Setup{Dim: 0, Degree: 3, Beam: 4, Num: 6, Den: 5}, false)
	checkSetup(t, api.Setup{Dim: 2, Degree: 3, Beam: 4, Num: 1, Den: 2}, false)
	checkSetup(t, api.Setup{}, false)
}

// Each number but Num and Den, whatever the others are.
func TestSetupOfEachNumber(t *testing.T) {
	for field := range 3 {
		for _, s := range []api.Setup{samples.LeastSetup(1), samples.MostSetup(), {Dim: 2, Degree: 3, Beam: 4, Num: 6, Den: 5}} {
			numbers, limits := samples.SetupFields(&s)
			for n := -3; n < 600; n++ {
				*numbers[field] = n
				checkSetup(t, s, n >= 1 && n <= limits[field])
			}
		}
	}
}

func TestSetupOfEachMeasure(t *testing.T) {
	ends := []int{-1, 0, 1, 2, 3, 499, 500, 501, 998, 999, 1000, 1001, 1002, 2000}
	for _, num := range ends {
		for _, den := range ends {
			s := samples.MostSetup()
			s.Num, s.Den = num, den
			checkSetup(t, s, 1 <= den && den <= num && num <= 1000)
		}
	}
}

func TestSetupRefuses(t *testing.T) {
	for _, s := range samples.WrongSetups() {
		checkSetup(t, s, false)
		checkGraph(t, api.Graph{}, s, false)
		checkGraph(t, example(), s, false)
		checkGraph(t, samples.Linked(0, nil), s, false)
	}
}

func TestCheckKnown(t *testing.T) {
	checkGraph(t, example(), samples.LeastSetup(1), true)
	checkGraph(t, example(), samples.WideSetup(1), true)
	checkGraph(t, example(), samples.LeastSetup(2), false)
	checkGraph(t, api.Graph{}, samples.LeastSetup(1), true)
	checkGraph(t, api.Graph{Nodes: []api.Node{}}, samples.MostSetup(), true)
	checkGraph(t, api.Graph{Start: 1}, samples.LeastSetup(1), false)
	checkGraph(t, samples.Linked(0, nil), samples.LeastSetup(1), true)
	checkGraph(t, samples.Linked(1, nil), samples.LeastSetup(1), false)
	checkGraph(t, samples.Linked(1, []int{1}, []int{0}), samples.LeastSetup(1), true)
	checkGraph(t, samples.Linked(1, []int{1}, []int{1}), samples.LeastSetup(1), false)
}

// Drawn graphs may be for setups of just so many numbers, and of at least so many neighbours.
func TestCheckOfEachSetup(t *testing.T) {
	for dim := 1; dim <= api.MaxDim; dim++ {
		degree := dim % (api.MaxDegree + 1)
		g := samples.Web(uint64(dim), 60, dim, degree)
		greatest := 0
		for _, node := range g.Nodes {
			greatest = max(greatest, len(node.Out))
		}
		for other := 1; other <= api.MaxDim; other++ {
			checkGraph(t, g, samples.WideSetup(other), other == dim)
		}
		for other := 1; other <= api.MaxDegree; other++ {
			s := samples.WideSetup(dim)
			s.Degree = other
			checkGraph(t, g, s, other >= greatest)
		}
	}
}

// Whether a graph may be does not hang on how wide a search is, and on the measure.
func TestCheckOfOtherNumbers(t *testing.T) {
	for _, g := range []api.Graph{example(), ruled(40, 3), {}, {Start: 1}} {
		want := graph.Check(g, samples.WideSetup(1))
		for _, n := range []int{1, 2, 99, 256} {
			s := samples.WideSetup(1)
			s.Beam, s.Num, s.Den = n, n+1, n
			checkGraph(t, g, s, want)
		}
	}
}

func TestCheckAtTheLimits(t *testing.T) {
	full := samples.FullGraph()
	checkGraph(t, full, samples.MostSetup(), true)
	last := &full.Nodes[api.MaxItems-1]
	for name, change := range map[string]func(){
		"one more neighbour":        func() { last.Out = append(last.Out, 0) },
		"a neighbour twice":         func() { last.Out[31] = last.Out[0] },
		"itself":                    func() { last.Out[31] = api.MaxItems - 1 },
		"a place too high":          func() { last.Out[31] = api.MaxItems },
		"a place below 0":           func() { last.Out[31] = -1 },
		"one more number":           func() { last.V = append(last.V, 0) },
		"a number less":             func() { last.V = last.V[:api.MaxDim-1] },
		"the first one's ID":        func() { last.ID = api.MaxNumber },
		"the one before's ID":       func() { last.ID++ },
		"an ID above MaxNumber":     func() { last.ID = api.MaxNumber + 1 },
		"the greatest of all IDs":   func() { last.ID = math.MaxUint64 },
		"a Start too high":          func() { full.Start++ },
		"a Start below 0":           func() { full.Start = -1 },
		"a node more than MaxItems": func() { full.Nodes = append(full.Nodes, api.Node{ID: 1, V: last.V}) },
	} {
		ahead, start, nodes := *last, full.Start, full.Nodes
		last.Out = slices.Clone(last.Out)
		change()
		if graph.Check(full, samples.MostSetup()) {
			t.Errorf("%s may not be", name)
		}
		full.Nodes, full.Start, *last = nodes, start, ahead
	}
	checkGraph(t, full, samples.MostSetup(), true)
}

func TestCheckOfEachStart(t *testing.T) {
	for count := range 9 {
		g := samples.Web(1, count, 1, 2)
		for start := -3; start < 12; start++ {
			g.Start = start
			checkGraph(t, g, samples.WideSetup(1), start == 0 || start > 0 && start < count)
		}
	}
}

// Any two nodes with one ID.
func TestCheckOfIDs(t *testing.T) {
	for a := range 20 {
		for b := range a {
			g := samples.Web(1, 20, 1, 2)
			g.Nodes[a].ID = g.Nodes[b].ID
			checkGraph(t, g, samples.WideSetup(1), false)
			g.Nodes[a].ID = api.MaxNumber
			g.Nodes[b].ID = 0
			checkGraph(t, g, samples.WideSetup(1), true)
		}
	}
	for _, id := range []uint64{1 << 62, 1<<62 + 1, 1 << 63, math.MaxUint64, math.MaxUint64 - 1} {
		for place := range 3 {
			g := samples.Web(1, 3, 1, 2)
			g.Nodes[place].ID = id
			checkGraph(t, g, samples.WideSetup(1), false)
		}
	}
}

// One node's vector has another number of numbers.
func TestCheckOfVectors(t *testing.T) {
	for dim := 1; dim <= api.MaxDim; dim++ {
		for place := range 4 {
			for _, other := range []int{0, dim - 1, dim + 1, dim + 256, 1000} {
				g := samples.Web(1, 4, dim, 2)
				g.Nodes[place].V = samples.Noise(1, other)
				checkGraph(t, g, samples.WideSetup(dim), false)
			}
		}
	}
}

// lists calls f with each list of so many numbers from -1 to the top.
func lists(length, top int, f func([]int)) {
	list := make([]int, length)
	var put func(int)
	put = func(at int) {
		if at == length {
			f(list)
			return
		}
		for n := -1; n <= top; n++ {
			list[at] = n
			put(at + 1)
		}
	}
	put(0)
}

// One node's Out is any list of a few places, of nodes that there are, and of others.
func TestCheckOfEachOut(t *testing.T) {
	for count := 1; count <= 3; count++ {
		for length := range 5 {
			lists(length, count, func(out []int) {
				for place := range count {
					g := samples.Web(1, count, 1, 0)
					g.Nodes[place].Out = out
					for degree := 1; degree <= 4; degree++ {
						s := samples.LeastSetup(1)
						s.Degree = degree
						checkGraph(t, g, s, plainCheck(g, s))
					}
				}
			})
		}
	}
}

func TestCheckOfEachGraph(t *testing.T) {
	for count := range 4 {
		graphs(count, func(g api.Graph) {
			for degree := 1; degree <= 3; degree++ {
				s := samples.LeastSetup(1)
				s.Degree = degree
				checkGraph(t, g, s, plainCheck(g, s))
			}
		})
	}
}

// P9.2

func TestFindKnown(t *testing.T) {
	checkFind(t, example(), 9, 2)
	checkFind(t, example(), 11, -1)
	checkFind(t, example(), 7, 0)
	checkFind(t, example(), 10, 3)
	checkFind(t, example(), 0, -1)
	checkFind(t, api.Graph{}, 0, -1)
	checkFind(t, api.Graph{Nodes: make([]api.Node, 1)}, 0, 0)
}

func TestFindEach(t *testing.T) {
	g := samples.Web(1, api.MaxItems, 1, 1)
	for place, node := range g.Nodes {
		checkFind(t, g, node.ID, place)
	}
	for _, id := range []uint64{0, 1, api.MaxNumber, math.MaxUint64, g.Nodes[0].ID + 1, g.Nodes[0].ID + 1<<32, g.Nodes[9].ID ^ 1<<63} {
		checkFind(t, g, id, -1)
	}
}

func TestFindTheFirst(t *testing.T) {
	g := samples.Linked(0, nil, nil, nil, nil, nil, nil)
	for place, id := range []uint64{5, 3, 5, 3, 3, math.MaxUint64} {
		g.Nodes[place].ID = id
	}
	checkFind(t, g, 5, 0)
	checkFind(t, g, 3, 1)
	checkFind(t, g, math.MaxUint64, 5)
	checkFind(t, g, 1<<62, -1)
}

// Find asks for no graph that may be, and none that holds together.
func TestFindInAnyGraph(t *testing.T) {
	g := samples.Linked(-9, []int{7, -1}, []int{math.MinInt})
	checkFind(t, g, 101, 1)
	checkFind(t, g, 102, -1)
	many := api.Graph{Nodes: make([]api.Node, 3*api.MaxItems), Start: math.MaxInt}
	many.Nodes[3*api.MaxItems-1].ID = math.MaxUint64
	checkFind(t, many, 0, 0)
	checkFind(t, many, math.MaxUint64, 3*api.MaxItems-1)
	checkFind(t, many, 1, -1)
}

// P9.3

func TestWalksKnown(t *testing.T) {
	checkReached(t, example(), 0, 1, 2)
	checkHops(t, example(), 0, 1, 2, -1)
	checkHops(t, api.Graph{})
	checkHops(t, api.Graph{Nodes: []api.Node{}})
	checkApart(t, api.Graph{Start: 1})
	checkHops(t, samples.Linked(0, nil), 0)
	checkHops(t, samples.Linked(0, []int{0}), 0)
	checkHops(t, samples.Linked(1, nil, nil), -1, 0)
	checkHops(t, samples.Linked(2, []int{1}, []int{0}, nil), -1, -1, 0)
	checkHops(t, samples.Linked(0, []int{1, 2}, []int{3}, []int{4}, []int{5}, []int{5}, nil), 0, 1, 1, 2, 2, 3)
	// The way that is come to first has more steps than the one that stands behind it.
	checkHops(t, samples.Linked(0, []int{1, 3}, []int{2}, []int{3, 4}, []int{4}, []int{0}), 0, 1, 2, 1, 2)
}

// Numbers reckoned outside the program.
func TestHopsReckonedOutside(t *testing.T) {
	for start, want := range map[int][]int{
		2:  {-1, 1, 0, -1, -1, 1, -1, -1, -1, -1, -1, -1},
		7:  {-1, 2, -1, -1, 1, -1, 1, 0, -1, 2, -1, -1},
		11: {-1, -1, -1, -1, -1, -1, -1, -1, 1, -1, -1, 0},
	} {
		checkHops(t, ruled(12, start), want...)
	}
	checkHops(t, ruled(23, 7), -1, 3, -1, 2, 4, -1, 1, 0, 5, 3, 3, -1, -1, 6, 2, -1, -1, -1, 1, 3, -1, 4, 2)
	checkHops(t, ruled(30, 0), 0, 1, -1, 1, -1, -1, -1, 3, -1, 5, 2, -1, -1, 3, -1, -1, -1, -1, 4, -1, -1, 3, 4, -1, 2, 5, -1, -1, -1, -1)
	for start, want := range map[int][]int{
		0:  {0, 1, 4, 1, 6, 6, 5, 3, 7, 7, 2, 4, -1, 5, -1, 8, -1, 5, 4, -1, -1, 8, 4, 6, 2, -1, 7, -1, -1, -1, 6, 7, 3, 5, 5, -1, 6, 6, 5, 5, 7},
		7:  {4, 5, 8, 5, 3, 3, 2, 0, 4, 11, 6, 1, -1, 9, -1, 5, -1, 9, 1, -1, -1, 6, 8, 3, 6, -1, 6, -1, -1, -1, 3, 4, 7, 9, 9, -1, 10, 3, 2, 2, 4},
		11: {7, 8, 11, 8, 6, 2, 5, 10, 3, 14, 9, 0, -1, 12, -1, 8, -1, 12, 4, -1, -1, 9, 11, 6, 9, -1, 9, -1, -1, -1, 2, 7, 10, 12, 12, -1, 13, 4, 5, 1, 3},
	} {
		checkHops(t, ruled(41, start), want...)
	}
}

func TestWalksOfEachGraph(t *testing.T) {
	for count := range 4 {
		graphs(count, func(g api.Graph) { checkWalks(t, g) })
	}
}

// All graphs of 4 nodes, with one Start: the others are as these, in another order.
func TestWalksOfEachGraphOfFour(t *testing.T) {
	graphs(4, func(g api.Graph) {
		if g.Start == 2 {
			checkWalks(t, g)
		}
	})
}

func TestWalksOfDrawnGraphs(t *testing.T) {
	for seed := range uint64(300) {
		for _, count := range []int{5, 20, 60} {
			for _, degree := range []int{1, 2, 5} {
				checkWalks(t, samples.Web(seed, count, 1, degree))
			}
		}
	}
}

// The longest way that there is has a step less than there are nodes.
func TestWalksOfALine(t *testing.T) {
	g := line(api.MaxItems)
	checkHops(t, g, samples.UpTo(api.MaxItems)...)
	g.Nodes[api.MaxItems-1].Out = []int{0}
	for _, start := range []int{0, 1, 1000, api.MaxItems - 1} {
		g.Start = start
		var want []int
		for place := range api.MaxItems {
			want = append(want, (place-start+api.MaxItems)%api.MaxItems)
		}
		checkHops(t, g, want...)
	}
	g.Nodes[99].Out = nil
	g.Start = 98
	checkReached(t, g, 98, 99)
}

// All nodes wait at once.
func TestWalksOfAStar(t *testing.T) {
	g := samples.Web(1, api.MaxItems, 1, 0)
	g.Start = 77
	g.Nodes[77].Out = samples.UpTo(api.MaxItems)
	want := slices.Repeat([]int{1}, api.MaxItems)
	want[77] = 0
	checkHops(t, g, want...)
	for place := range g.Nodes {
		g.Nodes[place].Out = g.Nodes[77].Out
	}
	checkHops(t, g, want...)
	g.Start = 5
	g.Nodes[5].Out = []int{77}
	want = slices.Repeat([]int{2}, api.MaxItems)
	want[5], want[77] = 0, 1
	checkHops(t, g, want...)
}

func TestWalksOfATree(t *testing.T) {
	g := samples.Web(1, api.MaxItems, 1, 0)
	var want []int
	for place := range g.Nodes {
		for _, next := range []int{2*place + 2, 2*place + 1} {
			if next < api.MaxItems {
				g.Nodes[place].Out = append(g.Nodes[place].Out, next)
			}
		}
		steps := 0
		for at := place; at > 0; at = (at - 1) / 2 {
			steps++
		}
		want = append(want, steps)
	}
	g.Start = 0
	checkHops(t, g, want...)
}

// A graph that holds together need not be one that may be.
func TestWalksOfGraphsThatMayNotBe(t *testing.T) {
	many := slices.Repeat([]int{1, 0, 2, 2, 1}, 20000)
	g := samples.Linked(0, many, many, []int{2, 2, 3}, []int{3, 3, 3}, []int{4, 0})
	for i := range g.Nodes {
		g.Nodes[i].ID = math.MaxUint64
		g.Nodes[i].V = samples.Noise(1, 100*i)
	}
	checkGraph(t, g, samples.WideSetup(1), false)
	checkHops(t, g, 0, 1, 1, 2, -1)
	checkFind(t, g, math.MaxUint64, 0)
	checkDrop(t, g, []int{1, 3}, plainDrop(g, []int{1, 3}))
}

func TestCallsRefuseAStart(t *testing.T) {
	for _, count := range []int{0, 1, 2, 9, api.MaxItems} {
		for _, start := range append(samples.FarNumbers(), count, count+1, 256+count, api.MaxItems, api.MaxItems+1) {
			g := samples.Web(1, count, 1, 2)
			if g.Start = start; start != 0 {
				checkApart(t, g)
			}
		}
	}
}

// A place that is none of a node, wherever it stands, and whether or not its node is reached.
func TestCallsRefuseNeighbours(t *testing.T) {
	for _, count := range []int{1, 2, 5} {
		for _, wrong := range append(samples.FarNumbers(), count, count+1, 256, 256+count, api.MaxItems) {
			for own := range count {
				for at := range 3 {
					g := samples.Web(1, count, 1, 0)
					out := make([]int, 3)
					out[at] = wrong
					g.Nodes[own].Out = out
					checkApart(t, g)
				}
			}
		}
	}
	g := samples.Web(1, api.MaxItems, 1, 0)
	g.Nodes[api.MaxItems-1].Out = []int{api.MaxItems - 1}
	checkHops(t, g, plainHops(g)...)
	g.Nodes[api.MaxItems-1].Out = []int{api.MaxItems}
	checkApart(t, g)
}

func TestCallsRefuseTooManyNodes(t *testing.T) {
	checkHops(t, line(api.MaxItems), samples.UpTo(api.MaxItems)...)
	checkApart(t, line(api.MaxItems+1))
	checkApart(t, api.Graph{Nodes: make([]api.Node, api.MaxItems+1)})
	checkApart(t, api.Graph{Nodes: make([]api.Node, 100*api.MaxItems)})
}

// P9.4

func TestDropKnown(t *testing.T) {
	checkDrop(t, example(), []int{1}, api.Graph{Nodes: []api.Node{{ID: 7, V: []int8{0}}, {ID: 9, V: []int8{2}}, {ID: 10, V: []int8{3}, Out: []int{0}}}})
	checkDrop(t, example(), []int{0}, api.Graph{Nodes: []api.Node{{ID: 8, V: []int8{1}, Out: []int{1}}, {ID: 9, V: []int8{2}}, {ID: 10, V: []int8{3}}}})
	checkNoDrop(t, example(), 1, 1)
	checkNoDrop(t, example(), 4)
	checkDrop(t, example(), nil, example())
	checkDrop(t, example(), []int{3, 0, 2, 1}, api.Graph{})
	checkDrop(t, api.Graph{}, nil, api.Graph{})
	checkNoDrop(t, api.Graph{}, 0)
	checkNoDrop(t, api.Graph{Start: 1})
}

// Numbers reckoned outside the program.
func TestDropReckonedOutside(t *testing.T) {
	for _, c := range []struct {
		start   int
		dropped []int
		left    []int
		outs    [][]int
		now     int
	}{
		{7, []int{0, 3, 8}, []int{1, 2, 4, 5, 6, 7, 9, 10, 11}, [][]int{{}, {3, 0}, {5}, {}, {6, 0}, {2, 4}, {}, {0}, {}}, 5},
		{7, []int{7, 1}, []int{0, 2, 3, 4, 5, 6, 8, 9, 10, 11}, [][]int{{2}, {4}, {0, 8}, {}, {}, {7}, {9}, {}, {}, {6}}, 0},
		{11, []int{10, 2, 9, 5, 6}, []int{0, 1, 3, 4, 7, 8, 11}, [][]int{{2, 1}, {}, {0}, {4}, {3}, {6}, {5}}, 6},
	} {
		g := ruled(12, c.start)
		want := api.Graph{Start: c.now}
		for i, place := range c.left {
			want.Nodes = append(want.Nodes, api.Node{ID: g.Nodes[place].ID, V: g.Nodes[place].V, Out: c.outs[i]})
		}
		checkDrop(t, g, c.dropped, want)
	}
}

// Of each graph of a few nodes, whatever is dropped, in each order.
func TestDropOfEachGraph(t *testing.T) {
	for count := range 4 {
		graphs(count, func(g api.Graph) {
			samples.Subsets(count, func(dropped []int) {
				want := plainDrop(g, dropped)
				samples.Orders(dropped, func(order []int) { checkDrop(t, g, order, want) })
			})
		})
	}
}

func TestDropOfDrawnGraphs(t *testing.T) {
	for seed := range uint64(200) {
		g := samples.Web(seed, 50, 3, 8)
		draw := samples.Drawer(seed)
		var dropped []int
		for place := range g.Nodes {
			if draw()%4 < seed%5 {
				dropped = append(dropped, place)
			}
		}
		want := plainDrop(g, dropped)
		checkDrop(t, g, dropped, want)
		slices.Reverse(dropped)
		checkDrop(t, g, dropped, want)
	}
}

// Whoever goes, Start stays at its node, or is 0.
func TestDropOfTheStart(t *testing.T) {
	for start := range 6 {
		g := samples.Web(1, 6, 1, 3)
		g.Start = start
		samples.Subsets(6, func(dropped []int) {
			left := mustDrop(t, g, dropped...)
			if slices.Contains(dropped, start) {
				if left.Start != 0 {
					t.Errorf("Start %d without %v: %d", start, dropped, left.Start)
				}
				return
			}
			if left.Start >= len(left.Nodes) || left.Nodes[left.Start].ID != g.Nodes[start].ID {
				t.Errorf("Start %d without %v: %d", start, dropped, left.Start)
			}
		})
	}
}

// What stands in an Out twice, and a node's own place, stay so, if they are left.
func TestDropLeavesWhatMayNotBe(t *testing.T) {
	g := api.Graph{Start: 3, Nodes: []api.Node{
		{ID: math.MaxUint64, V: nil, Out: []int{3, 1, 3, 0, 0, 2}},
		{ID: 5, V: samples.Noise(1, 100), Out: []int{1}},
		{ID: 5, V: []int8{1}, Out: []int{3, 2, 1, 0, 1, 2, 3}},
		{ID: 5, V: []int8{-1, 2}},
	}}
	checkDrop(t, g, nil, g)
	checkDrop(t, g, []int{1}, api.Graph{Start: 2, Nodes: []api.Node{
		{ID: math.MaxUint64, Out: []int{2, 2, 0, 0, 1}},
		{ID: 5, V: []int8{1}, Out: []int{2, 1, 0, 1, 2}},
		{ID: 5, V: []int8{-1, 2}},
	}})
	checkDrop(t, g, []int{3, 0}, api.Graph{Nodes: []api.Node{
		{ID: 5, V: samples.Noise(1, 100), Out: []int{0}},
		{ID: 5, V: []int8{1}, Out: []int{1, 0, 0, 1}},
	}})
}

func TestDropRefusesPlaces(t *testing.T) {
	for _, count := range []int{0, 1, 2, 9, api.MaxItems} {
		g := samples.Web(1, count, 1, 2)
		all := samples.UpTo(count)
		for _, wrong := range append(samples.FarNumbers(), count, count+1, count+256, api.MaxItems, api.MaxItems+1) {
			checkNoDrop(t, g, wrong)
			checkNoDrop(t, g, append(slices.Clone(all), wrong)...)
			checkNoDrop(t, g, append([]int{wrong}, all...)...)
			checkNoDrop(t, g, wrong, wrong)
		}
	}
	for a := range 9 {
		for b := range 9 {
			g := samples.Web(1, 9, 1, 2)
			checkNoDrop(t, g, a, a)
			checkNoDrop(t, g, a, b, a)
			checkNoDrop(t, g, append(samples.UpTo(9), a)...)
			checkNoDrop(t, g, b, 8-b, a, 8-b)
		}
	}
	checkNoDrop(t, samples.Web(1, 9, 1, 2), make([]int, 1<<20)...)
}

func TestDropAtTheLimits(t *testing.T) {
	g := samples.Web(1, api.MaxItems, api.MaxDim, api.MaxDegree)
	checkDrop(t, g, samples.UpTo(api.MaxItems), api.Graph{})
	checkDrop(t, g, nil, g)
	for _, step := range []int{2, 3, 100} {
		var dropped []int
		for place := 0; place < api.MaxItems; place += step {
			dropped = append(dropped, place)
		}
		checkDrop(t, g, dropped, plainDrop(g, dropped))
	}
}

// P9.5

// Whatever is dropped of a graph that may be: what is left may be.
func TestWhatIsLeftMayBe(t *testing.T) {
	for count := range 4 {
		graphs(count, func(g api.Graph) {
			samples.Subsets(count, func(dropped []int) {
				if graph.Check(g, samples.WideSetup(1)) {
					checkGraph(t, mustDrop(t, g, dropped...), samples.WideSetup(1), true)
				}
			})
		})
	}
	for seed := range uint64(50) {
		g := samples.Web(seed, 40, 3, 5)
		s := samples.WideSetup(3)
		s.Degree = 5
		draw := samples.Drawer(seed)
		for len(g.Nodes) > 0 {
			g = mustDrop(t, g, int(draw()%uint64(len(g.Nodes))))
			checkGraph(t, g, s, true)
		}
	}
}

// One by one, from the last one on, or all at once: what is left is the same.
func TestOneByOneOrAllAtOnce(t *testing.T) {
	for seed := range uint64(50) {
		g := samples.Web(seed, 30, 2, 6)
		g.Start = 0
		all := []int{29, 20, 11, 10, 9, 5, 3}
		left := g
		for _, place := range all {
			left = mustDrop(t, left, place)
		}
		checkDrop(t, g, all, left)
	}
}

// Of each node that is reached, and not at Start, some other one leads to it that is one step nearer; no node leads to one that is farther.
func TestSomeNodeIsOneStepNearer(t *testing.T) {
	for seed := range uint64(200) {
		g := samples.Web(seed, 100, 1, 1+int(seed%4))
		hops := mustHops(t, g)
		nearer := make([]bool, len(hops))
		for place, node := range g.Nodes {
			for _, next := range node.Out {
				if hops[place] >= 0 && (hops[next] < 0 || hops[next] > hops[place]+1) {
					t.Fatalf("seed %d: %d is at %d, and leads to %d, at %d", seed, place, hops[place], next, hops[next])
				}
				nearer[next] = nearer[next] || hops[place] >= 0 && hops[place] == hops[next]-1
			}
		}
		for place, n := range hops {
			if (n == 0) != (place == g.Start) || n > 0 && !nearer[place] {
				t.Fatalf("seed %d: %d is at %d, and no one leads there", seed, place, n)
			}
		}
	}
}

// R4, R5

func TestArgumentsStayAsTheyAre(t *testing.T) {
	g, look := samples.RoomyGraph(samples.Web(1, 30, 4, 6))
	room := []int{3, 7, 0, 12, 12}
	s := samples.WideSetup(4)
	ahead := look()
	for range 2 {
		checkGraph(t, g, s, true)
		checkGraph(t, g, samples.WideSetup(5), false)
		checkFind(t, g, g.Nodes[7].ID, 7)
		mustHops(t, g)
		mustReach(t, g)
		mustDrop(t, g, room[:4]...)
		checkNoDrop(t, g, room...)
		checkNoDrop(t, g, 30)
	}
	if !samples.SameGraph(look(), ahead) {
		t.Errorf("the graph is %v; it was %v", look(), ahead)
	}
	if !slices.Equal(room, []int{3, 7, 0, 12, 12}) || s != samples.WideSetup(4) {
		t.Errorf("the places are %v, the setup %v", room, s)
	}
}

// What stands in a list's spare room does not count.
func TestSpareRoomDoesNotCount(t *testing.T) {
	for seed := range uint64(20) {
		plain := samples.Web(seed, 30, 4, 6)
		g, _ := samples.RoomyGraph(plain)
		checkGraph(t, g, samples.WideSetup(4), true)
		checkWalks(t, g)
		checkFind(t, g, 1, -1)
		checkDrop(t, g, []int{5, 29, 0, 0}[:3], plainDrop(plain, []int{5, 29, 0}))
	}
	full, _ := samples.RoomyGraph(samples.Web(1, api.MaxItems, 1, 2))
	checkGraph(t, full, samples.WideSetup(1), true)
	checkHops(t, full, plainHops(full)...)
	none, _ := samples.RoomyGraph(api.Graph{})
	checkGraph(t, none, samples.WideSetup(1), true)
	checkHops(t, none)
	checkDrop(t, none, nil, api.Graph{})
}

// Whatever is done to an answer: what was handed in stays, and the next answer is the same.
func TestAnswersShareNoMemory(t *testing.T) {
	want := samples.Web(1, 30, 4, 6)
	g, look := samples.RoomyGraph(want)
	ahead := look()
	for _, dropped := range [][]int{nil, {3}, {0, 29}, samples.UpTo(29)} {
		for range 3 {
			left := mustDrop(t, g, dropped...)
			other := mustDrop(t, g, dropped...)
			hops, places := mustHops(t, g), mustReach(t, g)
			samples.SpoilGraph(left)
			for _, list := range [][]int{hops[:cap(hops)], places[:cap(places)]} {
				for i := range list {
					list[i] = 99
				}
			}
			if !samples.SameGraph(other, plainDrop(want, dropped)) {
				t.Fatalf("another answer is %v", other)
			}
			if !samples.SameGraph(look(), ahead) {
				t.Fatalf("without %v: what was handed in is %v", dropped, look())
			}
			checkWalks(t, g)
			checkDrop(t, g, dropped, plainDrop(want, dropped))
		}
	}
}

// What was handed in may be changed: an answer stays.
func TestAnswersKeepNoArgument(t *testing.T) {
	want := samples.Web(1, 30, 4, 6)
	g, _ := samples.RoomyGraph(want)
	dropped := []int{5, 6, 11}
	all, some, hops, places := mustDrop(t, g), mustDrop(t, g, dropped...), mustHops(t, g), mustReach(t, g)
	samples.SpoilGraph(g)
	clear(dropped)
	if !samples.SameGraph(all, want) || !samples.SameGraph(some, plainDrop(want, []int{5, 6, 11})) {
		t.Errorf("%v, %v", all, some)
	}
	if !slices.Equal(hops, plainHops(want)) || !slices.Equal(places, plainReached(want)) {
		t.Errorf("%v, %v", hops, places)
	}
}

// No two lists of a graph that is answered share memory: whichever is written over, to the end of its room, the others stay. The vectors and the neighbours that are handed in do share theirs.
func TestListsOfAnAnswerShareNoMemory(t *testing.T) {
	v, out := samples.Noise(1, 9), []int{2, 1, 3, 0}
	g := samples.Linked(0, out, out[1:], out[:2], out[:0], out)
	for i := range g.Nodes {
		g.Nodes[i].V = v[i : 2*i]
	}
	for _, dropped := range [][]int{nil, {1}, {2, 4}} {
		if shared := samples.SharedLists(func() api.Graph { return mustDrop(t, g, dropped...) }); len(shared) > 0 {
			t.Errorf("without %v: the nodes %v share", dropped, shared)
		}
	}
}

// An answer hangs on what is handed in alone, not on the calls ahead of it.
func TestCallsAheadChangeNothing(t *testing.T) {
	big := samples.Web(3, 200, 2, 4)
	for range 3 {
		checkGraph(t, example(), samples.LeastSetup(1), true)
		checkFind(t, example(), 9, 2)
		checkHops(t, example(), 0, 1, 2, -1)
		checkDrop(t, example(), []int{1}, plainDrop(example(), []int{1}))
		mustHops(t, big)
		mustDrop(t, big, 7, 8, 9)
		checkApart(t, api.Graph{Start: 1})
		checkNoDrop(t, big, 200)
		checkGraph(t, big, samples.LeastSetup(2), false)
	}
}

// Calls that run side by side don't meet.
func TestCallsSideBySide(t *testing.T) {
	done := make(chan []int)
	for start := range 20 {
		go func() {
			hops, _ := graph.Hops(ruled(41, start))
			done <- append([]int{start}, hops...)
		}()
	}
	for range 20 {
		got := <-done
		if want := plainHops(ruled(41, got[0])); !slices.Equal(got[1:], want) {
			t.Errorf("Start %d: %v; want %v", got[0], got[1:], want)
		}
	}
}

// FuzzGraph holds all calls of a graph that is made of bytes against the plain ones.
func FuzzGraph(f *testing.F) {
	f.Add([]byte{1, 10, 2, 3}, 1, 4, 100)
	f.Add([]byte{9, 17, 0, 4, 0, 0, 1, 7, 0, 2, 9, 9}, 2, 3, 5)
	f.Add([]byte{5, 6, 1, 2, 3, 4, 0, 5, 6, 0, 0, 255, 12}, 1, 32, 1)
	f.Fuzz(func(t *testing.T, bytes []byte, dim, degree, id int) {
		draw := samples.Bytes(bytes)
		g := samples.BentGraph(draw)
		s := api.Setup{Dim: dim, Degree: degree, Beam: 9, Num: 3, Den: 2}
		checkSetup(t, s, plainSetup(s))
		checkGraph(t, g, s, plainCheck(g, s))
		checkFind(t, g, uint64(id), slices.IndexFunc(g.Nodes, func(node api.Node) bool { return node.ID == uint64(id) }))
		if !plainTogether(g) {
			checkApart(t, g)
			return
		}
		checkWalks(t, g)
		var dropped []int
		for range draw() % 6 {
			dropped = append(dropped, int(draw()%21))
		}
		unlike := slices.Compact(slices.Sorted(slices.Values(dropped)))
		if len(unlike) < len(dropped) || len(unlike) > 0 && unlike[len(unlike)-1] >= len(g.Nodes) {
			checkNoDrop(t, g, dropped...)
			return
		}
		checkDrop(t, g, dropped, plainDrop(g, dropped))
	})
}

func BenchmarkCheck(b *testing.B) {
	g := samples.Web(1, api.MaxItems, api.MaxDim, api.MaxDegree)
	for b.Loop() {
		graph.Check(g, samples.MostSetup())
	}
}

func BenchmarkHops(b *testing.B) {
	g := samples.Web(1, api.MaxItems, api.MaxDim, api.MaxDegree)
	for b.Loop() {
		graph.Hops(g)
	}
}

func BenchmarkDrop(b *testing.B) {
	g := samples.Web(1, api.MaxItems, api.MaxDim, api.MaxDegree)
	for b.Loop() {
		graph.Drop(g, []int{0, 7, 1000})
	}
}
