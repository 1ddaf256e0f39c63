package prune_test

import (
	"math"
	"slices"
	"testing"

	"lodestone/api"
	"lodestone/graph"
	"lodestone/prune"
	"lodestone/samples"
)

// setup is one for vectors of so many numbers.
func setup(dim, degree, num, den int) api.Setup {
	return api.Setup{Dim: dim, Degree: degree, Beam: 1, Num: num, Den: den}
}

// plainApart is the document's words.
func plainApart(g api.Graph, a, b int) int64 {
	sum := int64(0)
	for i, n := range g.Nodes[a].V {
		sum += (int64(n) - int64(g.Nodes[b].V[i])) * (int64(n) - int64(g.Nodes[b].V[i]))
	}
	return sum
}

// plainNeedless likewise.
func plainNeedless(g api.Graph, s api.Setup, at, kept, other int) bool {
	return int64(s.Num)*plainApart(g, kept, other) <= int64(s.Den)*plainApart(g, other, at)
}

// plainNearer says whether a is a nearer hit than b.
func plainNearer(g api.Graph, at, a, b int) bool {
	x, y := plainApart(g, a, at), plainApart(g, b, at)
	return x < y || x == y && g.Nodes[a].ID < g.Nodes[b].ID
}

// plainKeep goes through all nodes of the graph, one by one, and asks of each whether it stands among the places.
func plainKeep(g api.Graph, s api.Setup, at int, places []int) []int {
	order := samples.UpTo(len(g.Nodes))
	for i := range order {
		for j := i + 1; j < len(order); j++ {
			if plainNearer(g, at, order[j], order[i]) {
				order[i], order[j] = order[j], order[i]
			}
		}
	}
	var kept []int
	for _, place := range order {
		needless := slices.ContainsFunc(kept, func(k int) bool { return plainNeedless(g, s, at, k, place) })
		if slices.Contains(places, place) && place != at && !needless && len(kept) < s.Degree {
			kept = append(kept, place)
		}
	}
	return kept
}

// plainMayAsk says whether the calls have an answer.
func plainMayAsk(g api.Graph, s api.Setup, at int, places ...int) bool {
	wrong := func(place int) bool { return place < 0 || place >= len(g.Nodes) }
	return graph.Check(g, s) && len(places) <= 2048 && !wrong(at) && !slices.ContainsFunc(places, wrong)
}

func checkKeep(t *testing.T, g api.Graph, s api.Setup, at int, places []int, want ...int) {
	t.Helper()
	if kept, e := prune.Keep(g, s, at, places); !slices.Equal(kept, want) || e != api.OK {
		t.Errorf("Keep(%v (%d nodes), %+v, %d, %v) = %v, %d; want %v", samples.TellGraph(g), len(g.Nodes), s, at, places, kept, e, want)
	}
}

func checkNoKeep(t *testing.T, g api.Graph, s api.Setup, at int, places ...int) {
	t.Helper()
	if kept, e := prune.Keep(g, s, at, places); len(kept) != 0 || e != api.ErrArg {
		t.Errorf("Keep(%v (%d nodes), %+v, %d, %d places) = %v, %d", samples.TellGraph(g), len(g.Nodes), s, at, len(places), kept, e)
	}
}

func checkDomination(t *testing.T, g api.Graph, s api.Setup, at, kept, other int, want bool) {
	t.Helper()
	if is, e := prune.Domination(g, s, at, kept, other); is != want || e != api.OK {
		t.Errorf("Domination(%v (%d nodes), %+v, %d, %d, %d) = %t, %d", samples.TellGraph(g), len(g.Nodes), s, at, kept, other, is, e)
	}
}

func checkNoDomination(t *testing.T, g api.Graph, s api.Setup, at, kept, other int) {
	t.Helper()
	if is, e := prune.Domination(g, s, at, kept, other); is || e != api.ErrArg {
		t.Errorf("Domination(%v (%d nodes), %+v, %d, %d, %d) = %t, %d", samples.TellGraph(g), len(g.Nodes), s, at, kept, other, is, e)
	}
}

// checkRefused: both calls refuse the graph and the setup, whatever the places are.
func checkRefused(t *testing.T, g api.Graph, s api.Setup) {
	t.Helper()
	for _, place := range []int{0, 1, -1, len(g.Nodes) - 1, len(g.Nodes)} {
		checkNoKeep(t, g, s, 0, place)
		checkNoKeep(t, g, s, place)
		checkNoDomination(t, g, s, place, 0, 0)
		checkNoDomination(t, g, s, 0, place, 0)
		checkNoDomination(t, g, s, 0, 0, place)
	}
	checkNoKeep(t, g, s, 0, samples.UpTo(len(g.Nodes))...)
}

func mustKeep(t *testing.T, g api.Graph, s api.Setup, at int, places []int) []int {
	t.Helper()
	kept, e := prune.Keep(g, s, at, places)
	if e != api.OK {
		t.Fatalf("Keep(%v (%d nodes), %+v, %d, %v): %d", samples.TellGraph(g), len(g.Nodes), s, at, places, e)
	}
	return kept
}

// checkPlain holds Keep against the plain reckoning, and against what follows.
func checkPlain(t *testing.T, g api.Graph, s api.Setup, at int, places []int) {
	t.Helper()
	checkKeep(t, g, s, at, places, plainKeep(g, s, at, places)...)
	checkFollows(t, g, s, at, places)
}

// measures are some Num and Den.
func measures() [][2]int {
	return [][2]int{{1, 1}, {1000, 1000}, {1000, 999}, {6, 5}, {2, 1}, {4, 1}, {9, 1}, {9, 4}, {1000, 1}}
}

// P10.1

func TestKeepKnown(t *testing.T) {
	g, s := samples.OnLine(0, 1, 2, -3), setup(1, 2, 1, 1)
	checkKeep(t, g, s, 0, []int{3, 2, 1, 1, 0}, 1, 3)
	checkKeep(t, g, s, 3, []int{0, 1, 2}, 0)
	checkKeep(t, g, s, 0, nil)
	checkKeep(t, g, s, 0, []int{})
	checkKeep(t, g, s, 0, []int{0})
	checkKeep(t, g, s, 0, []int{0, 0, 0})
	checkKeep(t, g, s, 0, []int{2}, 2)
	checkKeep(t, g, s, 0, []int{2, 3, 2}, 2, 3)
	checkNoKeep(t, g, s, 0, 9)
	checkNoKeep(t, g, s, 4)
	checkKeep(t, g, setup(1, 2, 5, 1), 0, []int{1, 2, 3}, 1, 2)
	checkKeep(t, g, setup(1, 3, 5, 1), 0, []int{1, 2, 3}, 1, 2, 3)
	checkKeep(t, g, setup(1, 3, 4, 1), 0, []int{1, 2, 3}, 1, 3)
	checkKeep(t, g, setup(1, 1, 5, 1), 0, []int{3, 2}, 2)
	checkKeep(t, samples.OnLine(5), s, 0, []int{0, 0})
}

// Numbers reckoned outside the program.
func TestKeepReckonedOutside(t *testing.T) {
	for _, c := range []struct {
		count, at, degree, num, den int
		want                        []int
	}{
		{12, 0, 32, 1, 1, []int{8}},
		{12, 0, 32, 2, 1, []int{8, 4, 5}},
		{12, 0, 5, 1000, 1, []int{8, 1, 7, 4, 9}},
		{12, 6, 3, 1, 1, []int{5}},
		{12, 6, 32, 6, 5, []int{5, 0}},
		{12, 6, 32, 2, 1, []int{5, 7, 2}},
		{12, 6, 5, 1000, 1, []int{5, 10, 11, 7, 2}},
		{12, 11, 32, 1, 1, []int{10, 2, 7}},
		{12, 11, 32, 6, 5, []int{10, 2, 9}},
		{12, 11, 32, 2, 1, []int{10, 2, 5, 9, 7}},
		{12, 11, 5, 1000, 1, []int{10, 2, 3, 5, 9}},
		{40, 0, 3, 1, 1, []int{16, 34}},
		{40, 0, 32, 6, 5, []int{16, 31}},
		{40, 0, 32, 2, 1, []int{16, 8, 39, 28}},
		{40, 20, 3, 1, 1, []int{23, 14, 27}},
		{40, 20, 32, 6, 5, []int{23, 14, 27, 10}},
		{40, 20, 32, 2, 1, []int{23, 14, 27, 26, 7, 11, 9}},
		{40, 20, 5, 1000, 1, []int{23, 14, 27, 31, 28}},
		{40, 39, 32, 2, 1, []int{4, 33, 12, 37, 29, 0, 31}},
		{90, 0, 32, 6, 5, []int{16, 86, 30}},
		{90, 0, 32, 2, 1, []int{16, 86, 74, 51, 64}},
		{90, 0, 5, 1000, 1, []int{16, 59, 86, 47, 72}},
		{90, 45, 32, 1, 1, []int{1, 12, 33}},
		{90, 45, 32, 2, 1, []int{1, 12, 21, 33, 8, 87, 80, 31, 63}},
		{90, 89, 32, 6, 5, []int{6, 48, 11}},
		{90, 89, 32, 2, 1, []int{6, 28, 62, 34, 54, 67}},
	} {
		checkKeep(t, samples.Ruled(c.count), setup(2, c.degree, c.num, c.den), c.at, samples.UpTo(c.count), c.want...)
	}
	var third []int
	for i := range 100 {
		third = append(third, i*3%90)
	}
	checkKeep(t, samples.Ruled(90), setup(2, 32, 3, 2), 1, third, 45, 21, 33, 87, 72, 54)
	checkKeep(t, samples.Ruled(90), setup(2, 32, 3, 2), 2, third, 3, 18, 60, 0)
	checkKeep(t, samples.Ruled(90), setup(2, 32, 3, 2), 3, third, 18, 60, 0)
}

// All graphs of four numbers from 0 to 3, with rising IDs, and with falling ones.
func TestKeepOfEachLine(t *testing.T) {
	for code := range 256 {
		g := samples.OnLine(int8(code&3), int8(code>>2&3), int8(code>>4&3), int8(code>>6))
		for range 2 {
			for i := range g.Nodes {
				g.Nodes[i].ID = uint64(3) - g.Nodes[i].ID
			}
			for _, measure := range measures() {
				for degree := 1; degree <= 4; degree++ {
					checkPlain(t, g, setup(1, degree, measure[0], measure[1]), code%4, samples.UpTo(4))
				}
			}
		}
	}
}

func TestKeepOfEachSetOfPlaces(t *testing.T) {
	g := samples.Ruled(7)
	for at := range g.Nodes {
		samples.Subsets(7, func(places []int) {
			for degree := 1; degree <= 6; degree += 2 {
				checkPlain(t, g, setup(2, degree, 3, 2), at, places)
				checkPlain(t, g, setup(2, degree, 9, 1), at, places)
			}
		})
	}
}

// The order in which places are handed in, and how often one is, count nothing.
func TestKeepOfEachOrder(t *testing.T) {
	g, s := samples.OnLine(0, 4, -4, 4, 9, -7, 20), setup(1, 4, 5, 1)
	for at := range g.Nodes {
		want := plainKeep(g, s, at, samples.UpTo(7))
		samples.Orders(samples.UpTo(7), func(places []int) { checkKeep(t, g, s, at, places, want...) })
		want = plainKeep(g, s, at, []int{1, 2, 5})
		samples.Orders([]int{1, 2, 5, 5, 1, 5}, func(places []int) { checkKeep(t, g, s, at, places, want...) })
	}
}

func TestKeepOfDrawnGraphs(t *testing.T) {
	for seed := range uint64(120) {
		dim := 1 + int(seed%5)
		g := samples.Web(seed, 40, dim, 6)
		draw := samples.Drawer(seed)
		measure := measures()[draw()%uint64(len(measures()))]
		s := setup(dim, 6+int(draw()%27), measure[0], measure[1])
		for range 5 {
			var places []int
			for range draw() % 90 {
				places = append(places, int(draw()%40))
			}
			checkPlain(t, g, s, int(draw()%40), places)
		}
	}
}

// Of places that are as far, those with less IDs come first, wherever they stand in the graph.
func TestKeepGoesByIDs(t *testing.T) {
	g := samples.OnLine(0, 5, -5, 9)
	samples.Orders([]int{0, 1, 2, 3}, func(ids []int) {
		for i := range g.Nodes {
			g.Nodes[i].ID = uint64(ids[i])
		}
		first, second := 1, 2
		if ids[2] < ids[1] {
			first, second = 2, 1
		}
		checkKeep(t, g, setup(1, 1, 1, 1), 0, []int{1, 2}, first)
		checkKeep(t, g, setup(1, 1, 1, 1), 0, []int{2, 1, 3}, first)
		checkKeep(t, g, setup(1, 4, 1, 1), 0, []int{3, 2, 1}, first, second)
	})
	g.Nodes[1].ID, g.Nodes[2].ID = api.MaxNumber, api.MaxNumber-1
	checkKeep(t, g, setup(1, 2, 1, 1), 0, []int{1, 2}, 2, 1)
	g.Nodes[1].ID, g.Nodes[2].ID = 1<<32, 1<<31
	checkKeep(t, g, setup(1, 2, 1, 1), 0, []int{1, 2}, 2, 1)
	g.Nodes[1].ID, g.Nodes[2].ID = 0, 1<<33
	checkKeep(t, g, setup(1, 2, 1, 1), 0, []int{1, 2}, 1, 2)
}

// A place with the node's own vector is the nearest; others with this vector are needless beside it, whatever the measure is.
func TestKeepOfSameVectors(t *testing.T) {
	g := samples.OnLine(3, 3, 3, 7, 7, 3)
	for _, measure := range measures()[1:] {
		want := []int{1}
		if measure[0] > measure[1] {
			want = []int{1, 3}
		}
		checkKeep(t, g, setup(1, 9, measure[0], measure[1]), 0, samples.UpTo(6), want...)
		checkKeep(t, g, setup(1, 9, measure[0], measure[1]), 0, []int{4, 5, 3, 2}, append([]int{2}, want[1:]...)...)
		checkKeep(t, g, setup(1, 9, measure[0], measure[1]), 0, []int{4, 3}, 3)
	}
	checkKeep(t, samples.OnLine(8, 8, 8, 8), setup(1, 32, 1000, 1), 2, samples.UpTo(4), 0)
}

// From 0 on a line: 10 beside one that is kept, at n. Num times what is between may be just Den times how far it is.
func TestKeepAtTheMeasure(t *testing.T) {
	for n := 1; n < 10; n++ {
		g, between := samples.OnLine(0, int8(n), 10), (10-n)*(10-n)
		for _, den := range []int{1, 2, 3, 9, 81, 100, 999, 1000} {
			for num := den; num <= api.MaxAlpha; num++ {
				s := setup(1, 2, num, den)
				if num*between <= 100*den {
					checkKeep(t, g, s, 0, []int{2, 1}, 1)
				} else {
					checkKeep(t, g, s, 0, []int{2, 1}, 1, 2)
				}
				checkDomination(t, g, s, 0, 1, 2, num*between <= 100*den)
			}
		}
	}
}

// One that is needless itself makes no other one needless: 2 is so beside 1, and 4 would be so beside 2 alone.
func TestKeepHoldsAgainstThoseThatAreKept(t *testing.T) {
	g := samples.OnLine(0, 10, 14, 18, 27)
	s := setup(1, 4, 3, 1)
	checkDomination(t, g, s, 0, 1, 2, true)
	checkDomination(t, g, s, 0, 2, 4, true)
	checkDomination(t, g, s, 0, 1, 4, false)
	checkKeep(t, g, s, 0, []int{1, 2, 4}, 1, 4)
	checkKeep(t, g, s, 0, []int{2, 4}, 2)
	checkKeep(t, g, s, 0, []int{1, 2, 3, 4}, 1, 4)
}

// Places in directions of their own: none makes another one needless, so Degree of them are kept.
func TestKeepUntilDegree(t *testing.T) {
	g := samples.Dots(make([]int8, api.MaxDim))
	for place := range api.MaxDim {
		v := make([]int8, api.MaxDim)
		v[place] = int8(100 - place)
		g.Nodes = append(g.Nodes, api.Node{ID: uint64(place) + 1, V: v})
	}
	falling := samples.UpTo(api.MaxDim + 1)
	slices.Reverse(falling)
	for degree := 1; degree <= api.MaxDegree; degree++ {
		s := setup(api.MaxDim, degree, 1, 1)
		checkKeep(t, g, s, 0, samples.UpTo(api.MaxDim+1), falling[:degree]...)
		checkKeep(t, g, s, 0, falling[:degree], falling[:degree]...)
		checkKeep(t, g, s, 0, falling[:degree-1], falling[:degree-1]...)
	}
}

// Which neighbours nodes have, where Start is, and how wide a search is, count nothing.
func TestKeepAsksForNodesAlone(t *testing.T) {
	for seed := range uint64(30) {
		g := samples.Web(seed, 30, 2, 6)
		bare := samples.CopyGraph(g)
		bare.Start = (g.Start + 7) % 30
		for i := range bare.Nodes {
			bare.Nodes[i].Out = nil
		}
		for at := range g.Nodes {
			s := setup(2, 6, 3, 2)
			want := mustKeep(t, g, s, at, samples.UpTo(30))
			s.Beam = api.MaxHits
			checkKeep(t, g, s, at, samples.UpTo(30), want...)
			checkKeep(t, bare, s, at, samples.UpTo(30), want...)
		}
	}
}

func TestKeepAtTheLimits(t *testing.T) {
	g := samples.Web(1, api.MaxItems, api.MaxDim, api.MaxDegree)
	for _, measure := range [][2]int{{1, 1}, {6, 5}, {1000, 1}} {
		s := setup(api.MaxDim, api.MaxDegree, measure[0], measure[1])
		want := plainKeep(g, s, api.MaxItems-1, samples.UpTo(api.MaxItems))
		checkKeep(t, g, s, api.MaxItems-1, samples.UpTo(api.MaxItems), want...)
		checkKeep(t, g, s, api.MaxItems-1, want, want...)
	}
	one := slices.Repeat([]int{3}, api.MaxItems)
	checkKeep(t, g, samples.MostSetup(), 7, one, 3)
	checkKeep(t, g, samples.MostSetup(), 3, one)
	checkNoKeep(t, g, samples.MostSetup(), 7, append(one, 3)...)
	checkNoKeep(t, g, samples.MostSetup(), 3, append(one, 3)...)
	checkNoKeep(t, g, samples.MostSetup(), 0, append(samples.UpTo(api.MaxItems), 0)...)
	checkNoKeep(t, g, samples.MostSetup(), 0, make([]int, 100*api.MaxItems)...)
	full := samples.FullGraph()
	checkKeep(t, full, samples.MostSetup(), 0, samples.UpTo(api.MaxItems), api.MaxItems-1)
	checkKeep(t, full, samples.MostSetup(), api.MaxItems-1, samples.UpTo(api.MaxItems), api.MaxItems-2)
}

// Vectors of a few nodes as far apart as can be: products are beyond 31 bits.
func TestKeepOfGreatProducts(t *testing.T) {
	for changed := range api.MaxDim + 1 {
		v := append(samples.Filled(changed, 127), samples.Filled(api.MaxDim-changed, -128)...)
		g := samples.Dots(samples.Filled(api.MaxDim, -128), v, samples.Filled(api.MaxDim, 127))
		between := api.MaxDim - changed
		for den := 1; den <= api.MaxAlpha; den++ {
			s := setup(api.MaxDim, 2, api.MaxAlpha, den)
			needless := api.MaxAlpha*between <= den*api.MaxDim
			checkDomination(t, g, s, 0, 1, 2, needless)
			if needless || changed == api.MaxDim {
				checkKeep(t, g, s, 0, []int{2, 1}, 1)
			} else {
				checkKeep(t, g, s, 0, []int{2, 1}, 1, 2)
			}
		}
	}
}

// A place that is none of a node, wherever it stands.
func TestKeepRefusesPlaces(t *testing.T) {
	for _, count := range []int{1, 2, 9} {
		g, s := samples.Web(1, count, 1, 2), samples.WideSetup(1)
		for _, wrong := range append(samples.FarNumbers(), count, count+1, count+256, api.MaxItems, api.MaxItems+1) {
			checkNoKeep(t, g, s, wrong)
			checkNoKeep(t, g, s, wrong, 0)
			checkNoKeep(t, g, s, wrong, wrong)
			checkNoKeep(t, g, s, 0, wrong)
			for at := range count + 1 {
				checkNoKeep(t, g, s, count-1, slices.Insert(samples.UpTo(count), at, wrong)...)
			}
			long := make([]int, api.MaxItems)
			long[api.MaxItems-1] = wrong
			checkNoKeep(t, g, s, 0, long...)
		}
	}
}

func TestCallsRefuseAnyPlaceOfNoNodes(t *testing.T) {
	for _, at := range append(samples.FarNumbers(), 0, 1) {
		checkNoKeep(t, api.Graph{}, samples.LeastSetup(1), at)
		checkNoDomination(t, api.Graph{}, samples.LeastSetup(1), at, at, at)
	}
	checkRefused(t, api.Graph{}, samples.LeastSetup(1))
}

func TestCallsRefuseSetups(t *testing.T) {
	for _, s := range samples.WrongSetups() {
		checkRefused(t, samples.OnLine(0, 1, 2, -3), s)
		checkRefused(t, samples.OnLine(0), s)
		checkRefused(t, api.Graph{}, s)
	}
}

// A graph that may not be, though the faulty node is asked for nothing; and one that may not be for this setup.
func TestCallsRefuseGraphs(t *testing.T) {
	g, s := samples.Web(1, 9, 3, 4), setup(3, 4, 6, 5)
	g.Nodes[4].Out = []int{8, 0, 2, 7}
	checkPlain(t, g, s, 0, []int{1, 2})
	for _, fault := range samples.Faults(g, 4) {
		if kept, e := prune.Keep(fault.Graph, s, 0, []int{1, 2}); len(kept) != 0 || e != api.ErrArg {
			t.Errorf("%s: %v, %d", fault.Name, kept, e)
		}
		checkRefused(t, fault.Graph, s)
	}
	checkRefused(t, g, setup(2, 4, 6, 5))
	checkRefused(t, g, setup(4, 4, 6, 5))
	checkRefused(t, g, setup(3, 3, 6, 5))
}

// P10.2

func TestDominationKnown(t *testing.T) {
	g, s := samples.OnLine(0, 1, 2, -3), setup(1, 2, 1, 1)
	checkDomination(t, g, s, 0, 1, 2, true)
	checkDomination(t, g, s, 0, 1, 3, false)
	checkNoDomination(t, g, s, 0, 4, 1)
	checkDomination(t, g, s, 0, 0, 1, true)
	checkDomination(t, g, s, 0, 2, 1, true)
	checkDomination(t, g, setup(1, 2, 2, 1), 0, 2, 1, false)
	checkDomination(t, g, s, 3, 2, 1, true)
	checkDomination(t, g, s, 3, 0, 0, true)
	checkDomination(t, g, s, 0, 3, 0, false)
	checkDomination(t, g, s, 0, 0, 0, true)
}

// How many there are, and a sum of which ones they are, reckoned outside the program.
func TestDominationReckonedOutside(t *testing.T) {
	g := samples.Ruled(25)
	for _, c := range [][5]int{
		{0, 1, 1, 468, 3153114},
		{0, 6, 5, 416, 2916187},
		{0, 2, 1, 319, 2351895},
		{0, 7, 2, 204, 1469906},
		{0, 1000, 999, 444, 3152814},
		{0, 1000, 1, 27, 166975},
		{7, 1, 1, 227, 1551910},
		{7, 6, 5, 183, 1371760},
		{7, 2, 1, 125, 926206},
		{7, 1000, 999, 203, 1507902},
		{24, 1, 1, 240, 1829823},
		{24, 6, 5, 189, 1258754},
		{24, 7, 2, 108, 688891},
		{24, 1000, 1, 25, 166400},
	} {
		many, sum := 0, 0
		for kept := range 25 {
			for other := range 25 {
				is, e := prune.Domination(g, setup(2, 1, c[1], c[2]), c[0], kept, other)
				if e != api.OK {
					t.Fatalf("%v, %d, %d: %d", c, kept, other, e)
				}
				if is {
					many++
					sum += (31*kept + other) * (kept + 1)
				}
			}
		}
		if many != c[3] || sum != c[4] {
			t.Errorf("%v: %d, %d", c, many, sum)
		}
	}
}

func TestDominationOfEachThree(t *testing.T) {
	for seed := range uint64(6) {
		dim := 1 + int(seed)
		g := samples.Web(seed, 9, dim, 3)
		g.Nodes[5].V = slices.Clone(g.Nodes[2].V)
		for _, measure := range measures() {
			s := setup(dim, 3, measure[0], measure[1])
			for at := range 9 {
				for kept := range 9 {
					for other := range 9 {
						checkDomination(t, g, s, at, kept, other, plainNeedless(g, s, at, kept, other))
					}
				}
			}
		}
	}
}

func TestDominationRefusesPlaces(t *testing.T) {
	for _, count := range []int{1, 2, 9} {
		g, s := samples.Web(1, count, 1, 2), samples.WideSetup(1)
		for _, wrong := range append(samples.FarNumbers(), count, count+1, count+256, api.MaxItems) {
			for place := range count {
				checkNoDomination(t, g, s, wrong, place, count-1)
				checkNoDomination(t, g, s, place, wrong, count-1)
				checkNoDomination(t, g, s, place, count-1, wrong)
				checkNoDomination(t, g, s, wrong, wrong, place)
				checkNoDomination(t, g, s, place, wrong, wrong)
			}
			checkNoDomination(t, g, s, wrong, wrong, wrong)
		}
	}
}

// P10.3

// checkFollows: the nearest is kept; each that is not is made needless by one that is, or Degree that are nearer are; what is kept of those that are kept is they.
func checkFollows(t *testing.T, g api.Graph, s api.Setup, at int, places []int) {
	t.Helper()
	kept := mustKeep(t, g, s, at, places)
	checkKeep(t, g, s, at, kept, kept...)
	for i, place := range kept {
		if place == at || !slices.Contains(places, place) || i > 0 && !plainNearer(g, at, kept[i-1], place) {
			t.Errorf("Keep(%d, %v) = %v", at, places, kept)
		}
	}
	for _, place := range places {
		if place == at || slices.Contains(kept, place) {
			continue
		}
		if len(kept) == 0 || plainNearer(g, at, place, kept[0]) {
			t.Errorf("Keep(%d, %v) = %v: %d is nearer", at, places, kept, place)
		}
		needless := slices.ContainsFunc(kept, func(k int) bool {
			is, e := prune.Domination(g, s, at, k, place)
			return is && e == api.OK
		})
		if !needless && (len(kept) < s.Degree || plainNearer(g, at, place, kept[len(kept)-1])) {
			t.Errorf("Keep(%d, %v) = %v: %d is not needless", at, places, kept, place)
		}
	}
}

// The greater the measure, the more are kept, if Degree lets them be.
func TestWhatFollowsForEachMeasure(t *testing.T) {
	for seed := range uint64(20) {
		g := samples.Web(seed, 25, 2, 5)
		for num := 1; num <= 6; num++ {
			for degree := 5; degree <= api.MaxDegree; degree += 9 {
				checkFollows(t, g, setup(2, degree, num, 1), int(seed), samples.UpTo(25))
			}
		}
		nearest := mustKeep(t, g, setup(2, 5, 1, 1), int(seed), samples.UpTo(25))[0]
		all := mustKeep(t, g, setup(2, 32, 1000, 1), int(seed), samples.UpTo(25))
		if all[0] != nearest || len(all) < 15 {
			t.Errorf("seed %d: %v; the nearest is %d", seed, all, nearest)
		}
	}
}

// R4, R5

func TestArgumentsStayAsTheyAre(t *testing.T) {
	g, look := samples.RoomyGraph(samples.Web(1, 30, 4, 6))
	room := []int{3, 7, 0, 12, 3, 5, 29, 30, 9}
	s := setup(4, 6, 2, 1)
	ahead := look()
	for range 2 {
		mustKeep(t, g, s, 0, room[:7])
		mustKeep(t, g, s, 3, room[:2])
		mustKeep(t, g, s, 3, room[:0])
		checkNoKeep(t, g, s, 0, room...)
		checkNoKeep(t, g, s, 30, room[:7]...)
		checkDomination(t, g, s, 0, 1, 2, plainNeedless(g, s, 0, 1, 2))
		checkNoDomination(t, g, s, 0, 1, 30)
	}
	if !samples.SameGraph(look(), ahead) {
		t.Errorf("the graph is %v; it was %v", look(), ahead)
	}
	if !slices.Equal(room, []int{3, 7, 0, 12, 3, 5, 29, 30, 9}) || s != setup(4, 6, 2, 1) {
		t.Errorf("the places are %v, the setup %v", room, s)
	}
}

// What stands in a list's spare room does not count.
func TestSpareRoomDoesNotCount(t *testing.T) {
	for seed := range uint64(20) {
		plain := samples.Web(seed, 30, 4, 6)
		g, _ := samples.RoomyGraph(plain)
		s, room := setup(4, 6, 2, 1), []int{9, 8, 7, 1, 2, 3, 30, -1}
		checkKeep(t, g, s, int(seed), room[:4], plainKeep(plain, s, int(seed), room[:4])...)
		checkNoKeep(t, g, s, 30)
		checkNoDomination(t, g, s, 0, 1, 30)
	}
}

// Whatever is done to an answer: what was handed in stays, and other answers do; also if all places are kept, in the order in which they stand.
func TestAnswersShareNoMemory(t *testing.T) {
	g, look := samples.RoomyGraph(samples.Web(1, 30, 4, 6))
	ahead := look()
	s := setup(4, api.MaxDegree, 1000, 1)
	all := mustKeep(t, g, s, 5, samples.UpTo(30))
	for count := range len(all) + 1 {
		places, want := all[:count], slices.Clone(all)
		for range 3 {
			kept, other := mustKeep(t, g, s, 5, places), mustKeep(t, g, s, 5, places)
			for i := range kept[:cap(kept)] {
				kept[:cap(kept)][i] = 99
			}
			if !slices.Equal(all, want) || !slices.Equal(other, want[:count]) || !samples.SameGraph(look(), ahead) {
				t.Fatalf("%v, %v; want %v", all, other, want)
			}
			checkKeep(t, g, s, 5, places, want[:count]...)
		}
	}
}

// What was handed in may be changed: an answer stays.
func TestAnswersKeepNoArgument(t *testing.T) {
	g, _ := samples.RoomyGraph(samples.Web(1, 30, 4, 6))
	s := setup(4, 32, 1000, 1)
	places := mustKeep(t, g, s, 5, samples.UpTo(30))
	kept, want := mustKeep(t, g, s, 5, places), slices.Clone(places)
	clear(places[:cap(places)])
	samples.SpoilGraph(g)
	if !slices.Equal(kept, want) {
		t.Errorf("%v; want %v", kept, want)
	}
}

// An answer hangs on what is handed in alone, not on the calls ahead of it.
func TestCallsAheadChangeNothing(t *testing.T) {
	g, s := samples.OnLine(0, 1, 2, -3), setup(1, 2, 1, 1)
	big := samples.Web(3, 200, 2, 4)
	for range 3 {
		checkKeep(t, g, s, 0, []int{3, 2, 1, 1, 0}, 1, 3)
		checkDomination(t, g, s, 0, 1, 2, true)
		mustKeep(t, big, samples.WideSetup(2), 7, samples.UpTo(200))
		checkNoKeep(t, big, samples.WideSetup(2), 200)
		checkRefused(t, g, api.Setup{})
		checkDomination(t, g, s, 0, 1, 3, false)
	}
}

// Calls that run side by side don't meet.
func TestCallsSideBySide(t *testing.T) {
	g, s := samples.Ruled(40), setup(2, 8, 2, 1)
	done := make(chan []int)
	for at := range 40 {
		go func() {
			kept, _ := prune.Keep(g, s, at, samples.UpTo(40))
			done <- append([]int{at}, kept...)
		}()
	}
	for range 40 {
		got := <-done
		if want := plainKeep(g, s, got[0], samples.UpTo(40)); !slices.Equal(got[1:], want) {
			t.Errorf("at %d: %v; want %v", got[0], got[1:], want)
		}
	}
}

// FuzzPrune holds both calls, of a graph that is made of bytes, against the plain ones.
func FuzzPrune(f *testing.F) {
	f.Add([]byte{1, 10, 2, 3}, 3, 4, 6, 5, 0)
	f.Add([]byte{9, 17, 0, 4, 0, 0, 1, 7, 0, 2, 9, 9, 9, 9, 9, 9, 9, 9, 9, 9, 9, 9, 30, 5, 4, 3, 2, 1, 0}, 1, 32, 1000, 1, 3)
	f.Add([]byte{5, 6, 1, 2, 3, 4, 0, 5, 6, 0, 0, 255, 12}, 2, 1, 1, 1, math.MinInt)
	f.Fuzz(func(t *testing.T, bytes []byte, dim, degree, num, den, at int) {
		draw := samples.Bytes(bytes)
		g := samples.BentGraph(draw)
		s := setup(dim, degree, num, den)
		var places []int
		for range draw() % 30 {
			places = append(places, int(draw()%21))
		}
		kept, other := int(draw()%21), int(draw()%21)
		if plainMayAsk(g, s, at, kept, other) {
			checkDomination(t, g, s, at, kept, other, plainNeedless(g, s, at, kept, other))
		} else {
			checkNoDomination(t, g, s, at, kept, other)
		}
		if plainMayAsk(g, s, at, places...) {
			checkPlain(t, g, s, at, places)
		} else {
			checkNoKeep(t, g, s, at, places...)
		}
	})
}

func BenchmarkKeep(b *testing.B) {
	g := samples.Web(1, api.MaxItems, api.MaxDim, api.MaxDegree)
	for b.Loop() {
		prune.Keep(g, setup(api.MaxDim, api.MaxDegree, 6, 5), 0, samples.UpTo(api.MaxItems))
	}
}

func BenchmarkKeepOfAFewNodes(b *testing.B) {
	g := samples.Web(1, api.MaxDegree+2, api.MaxDim, api.MaxDegree)
	for b.Loop() {
		prune.Keep(g, setup(api.MaxDim, api.MaxDegree, 6, 5), 0, samples.UpTo(len(g.Nodes)))
	}
}
