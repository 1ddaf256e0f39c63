package search_test

import (
	"cmp"
	"math"
	"slices"
	"testing"

	"lodestone/api"
	"lodestone/graph"
	"lodestone/samples"
	"lodestone/search"
)

// example is the chapter's graph.
func example() api.Graph {
	return api.Graph{Nodes: []api.Node{{ID: 7, V: []int8{0}, Out: []int{1}}, {ID: 8, V: []int8{5}, Out: []int{2}}, {ID: 9, V: []int8{9}}, {ID: 6, V: []int8{8}, Out: []int{0}}}}
}

// ruled joins nodes by a rule that the numbers reckoned outside know too; some have themselves as a neighbour, or another one twice.
func ruled(count, start int) api.Graph {
	g := samples.Ruled(count)
	for i := range g.Nodes {
		g.Nodes[i].Out = []int{(7*i + 3) % count, (5*i*i + 1) % count, (3*i + 8) % count, (i*i*i + 2*i) % count}
	}
	g.Start = start
	return g
}

// downhill is a row of MaxItems nodes, each with the next one as its neighbour, and nearer to a vector, which is handed out too.
func downhill() (api.Graph, []int8) {
	g := api.Graph{}
	for i := range api.MaxItems {
		v := samples.Filled(api.MaxDim, -128)
		for unit := range 7 * i {
			v[unit%api.MaxDim]++
		}
		g.Nodes = append(g.Nodes, api.Node{ID: uint64(i), V: v, Out: []int{(i + 1) % api.MaxItems}})
	}
	return g, samples.Filled(api.MaxDim, 127)
}

// hits makes hits of numbers, ID and Dist in turn.
func hits(numbers ...int) []api.Hit {
	var l []api.Hit
	for i := 0; i < len(numbers); i += 2 {
		l = append(l, api.Hit{ID: uint64(numbers[i]), Dist: int64(numbers[i+1])})
	}
	return l
}

// hitAt is the document's words, as all that is plain.
func hitAt(g api.Graph, v []int8, place int) api.Hit {
	sum := int64(0)
	for i, n := range g.Nodes[place].V {
		sum += (int64(n) - int64(v[i])) * (int64(n) - int64(v[i]))
	}
	return api.Hit{ID: g.Nodes[place].ID, Dist: sum}
}

func plainNearer(a, b api.Hit) int {
	return cmp.Or(cmp.Compare(a.Dist, b.Dist), cmp.Compare(a.ID, b.ID))
}

// plainNearest are the nearest k hits of the nodes at the places.
func plainNearest(g api.Graph, v []int8, k int, places []int) []api.Hit {
	var l []api.Hit
	for _, place := range places {
		l = append(l, hitAt(g, v, place))
	}
	slices.SortFunc(l, plainNearer)
	return l[:min(k, len(l))]
}

// plainMaySearch holds each node against each other one.
func plainMaySearch(g api.Graph, v []int8) bool {
	if len(g.Nodes) > 2048 || g.Start < 0 || g.Start > 0 && g.Start >= len(g.Nodes) || len(v) < 1 || len(v) > 64 {
		return false
	}
	wrong := func(place int) bool { return place < 0 || place >= len(g.Nodes) }
	for own, node := range g.Nodes {
		same := func(other api.Node) bool { return other.ID == node.ID }
		if len(node.V) != len(v) || slices.ContainsFunc(node.Out, wrong) || slices.ContainsFunc(g.Nodes[:own], same) {
			return false
		}
	}
	return true
}

// plainBeam keeps a list of places, the nearest first, and goes through it from its beginning for each node that is looked at.
func plainBeam(g api.Graph, v []int8, k, beam int) ([]api.Hit, []int) {
	var list, came, looked []int
	come := func(places ...int) {
		for _, place := range places {
			if slices.Contains(came, place) {
				continue
			}
			came = append(came, place)
			own := hitAt(g, v, place)
			at := slices.IndexFunc(list, func(p int) bool { return plainNearer(own, hitAt(g, v, p)) < 0 })
			if at == -1 {
				at = len(list)
			}
			list = slices.Insert(list, at, place)
			list = list[:min(beam, len(list))]
		}
	}
	if len(g.Nodes) > 0 {
		come(g.Start)
	}
	for {
		at := slices.IndexFunc(list, func(place int) bool { return !slices.Contains(looked, place) })
		if at == -1 {
			return plainNearest(g, v, k, list), looked
		}
		looked = append(looked, list[at])
		come(g.Nodes[list[at]].Out...)
	}
}

func checkBeam(t *testing.T, g api.Graph, v []int8, k, beam int, want []api.Hit, order []int) {
	t.Helper()
	l, looked, e := search.Beam(g, v, k, beam)
	if !slices.Equal(l, want) || !slices.Equal(looked, order) || e != api.OK {
		t.Errorf("Beam(%v (%d nodes), %v, %d, %d) = %v, %v, %d; want %v, %v", samples.TellGraph(g), len(g.Nodes), v, k, beam, l, looked, e, want, order)
	}
}

func checkNoBeam(t *testing.T, g api.Graph, v []int8, k, beam int) {
	t.Helper()
	if l, looked, e := search.Beam(g, v, k, beam); len(l)+len(looked) != 0 || e != api.ErrArg {
		t.Errorf("Beam(%v (%d nodes), %v, %d, %d) = %v, %v, %d", samples.TellGraph(g), len(g.Nodes), v, k, beam, l, looked, e)
	}
}

func checkExact(t *testing.T, g api.Graph, v []int8, k int, want []api.Hit) {
	t.Helper()
	if l, e := search.Exact(g, v, k); !slices.Equal(l, want) || e != api.OK {
		t.Errorf("Exact(%v (%d nodes), %v, %d) = %v, %d; want %v", samples.TellGraph(g), len(g.Nodes), v, k, l, e, want)
	}
}

func checkNoExact(t *testing.T, g api.Graph, v []int8, k int) {
	t.Helper()
	if l, e := search.Exact(g, v, k); len(l) != 0 || e != api.ErrArg {
		t.Errorf("Exact(%v (%d nodes), %v, %d) = %v, %d", samples.TellGraph(g), len(g.Nodes), v, k, l, e)
	}
}

func checkShared(t *testing.T, a, b []api.Hit, want int) {
	t.Helper()
	if n := search.Shared(a, b); n != want {
		t.Errorf("Shared(%v, %v) = %d; want %d", a, b, n, want)
	}
	if n := search.Shared(b, a); n != want {
		t.Errorf("Shared(%v, %v) = %d; want %d", b, a, n, want)
	}
}

// checkRefused: both calls refuse the graph for the vector, whatever the numbers are.
func checkRefused(t *testing.T, g api.Graph, v []int8) {
	t.Helper()
	for _, n := range []int{0, 1, 2, api.MaxHits, api.MaxHits + 1} {
		checkNoBeam(t, g, v, 1, n)
		checkNoBeam(t, g, v, n, n)
		checkNoBeam(t, g, v, n, api.MaxHits)
		checkNoExact(t, g, v, n)
	}
}

// checkPlain holds both calls against the plain ones, and Beam against what follows.
func checkPlain(t *testing.T, g api.Graph, v []int8, k, beam int) {
	t.Helper()
	l, looked := plainBeam(g, v, k, beam)
	checkBeam(t, g, v, k, beam, l, looked)
	checkExact(t, g, v, k, plainNearest(g, v, k, samples.UpTo(len(g.Nodes))))
	checkFollows(t, g, v, k, beam)
}

// P11.1

func TestBeamKnown(t *testing.T) {
	g := example()
	checkBeam(t, g, []int8{9}, 1, 1, hits(9, 0), []int{0, 1, 2})
	checkBeam(t, g, []int8{9}, 2, 3, hits(9, 0, 8, 16), []int{0, 1, 2})
	checkBeam(t, g, []int8{0}, 1, 1, hits(7, 0), []int{0})
	checkBeam(t, g, []int8{0}, 1, 2, hits(7, 0), []int{0, 1})
	checkBeam(t, g, []int8{0}, 2, 2, hits(7, 0, 8, 25), []int{0, 1})
	checkBeam(t, g, []int8{0}, 9, 9, hits(7, 0, 8, 25, 9, 81), []int{0, 1, 2})
	checkNoBeam(t, g, []int8{9}, 2, 1)
	checkNoBeam(t, g, []int8{1, 2}, 1, 1)
	checkBeam(t, api.Graph{}, []int8{9}, 1, 1, nil, nil)
	g.Start = 3
	checkBeam(t, g, []int8{9}, 2, 2, hits(9, 0, 6, 1), []int{3, 0, 1, 2})
	checkBeam(t, g, []int8{9}, 1, 1, hits(6, 1), []int{3})
	g.Start = 2
	checkBeam(t, g, []int8{9}, 2, 2, hits(9, 0), []int{2})
	checkBeam(t, samples.OnLine(5), []int8{-5}, 256, 256, hits(0, 100), []int{0})
}

// Numbers reckoned outside the program.
func TestBeamReckonedOutside(t *testing.T) {
	for _, c := range []struct {
		count, start int
		v            []int8
		k, beam      int
		want         []api.Hit
		looked       []int
	}{
		{12, 0, []int8{0, 0}, 1, 1, hits(34, 3604), []int{0, 1}},
		{12, 0, []int8{0, 0}, 3, 4, hits(34, 3604, 72, 3961, 33, 7072), []int{0, 1, 11, 9, 5}},
		{12, 5, []int8{-100, 90}, 2, 2, hits(72, 7461, 92, 27394), []int{5, 3, 9}},
		{12, 5, []int8{-100, 90}, 12, 12, hits(72, 7461, 34, 16704, 43, 25652, 92, 27394, 63, 29224, 5, 32400, 33, 33892, 4, 41905, 53, 46852, 82, 62464), []int{5, 3, 9, 2, 0, 1, 8, 11, 10, 6}},
		{12, 11, []int8{127, -128}, 4, 6, hits(82, 4589, 53, 11065, 4, 22834, 33, 29497), []int{11, 6, 5, 8, 1, 10}},
		{40, 0, []int8{0, 0}, 1, 1, hits(34, 3604), []int{0, 1}},
		{40, 0, []int8{0, 0}, 2, 3, hits(22, 1802, 89, 2117), []int{0, 1, 11, 33, 27, 32, 24}},
		{40, 39, []int8{50, -20}, 1, 1, hits(90, 845), []int{39, 5, 23}},
		{40, 39, []int8{50, -20}, 2, 2, hits(90, 845, 53, 932), []int{39, 5, 23}},
		{40, 39, []int8{50, -20}, 3, 5, hits(80, 578, 90, 845, 53, 932), []int{39, 5, 23, 38, 28, 6, 26}},
		{40, 17, []int8{-128, -128}, 2, 2, hits(34, 15380, 60, 29800), []int{17, 27, 32, 1}},
		{40, 17, []int8{-128, -128}, 4, 8, hits(5, 2228, 43, 9280, 62, 13721, 34, 15380), []int{17, 27, 32, 1, 24, 0, 8, 9, 35, 33, 34, 12, 21, 7}},
		{97, 0, []int8{0, 0}, 1, 1, hits(34, 3604), []int{0, 1}},
		{97, 0, []int8{0, 0}, 2, 3, hits(94, 40, 30, 1418), []int{0, 1, 11, 80, 41, 24}},
		{97, 50, []int8{50, -20}, 1, 1, hits(45, 1801), []int{50, 85}},
		{97, 50, []int8{50, -20}, 4, 4, hits(68, 520, 80, 578, 48, 841, 45, 1801), []int{50, 85, 62, 49, 26, 55}},
		{97, 96, []int8{-128, -128}, 1, 2, hits(67, 4264), []int{96, 94, 46, 8, 59}},
		{97, 96, []int8{-128, -128}, 2, 6, hits(81, 3809, 67, 4264), []int{96, 94, 46, 8, 59, 88, 51, 34, 47, 87, 16, 56, 61}},
		{97, 3, []int8{127, 127}, 3, 10, hits(63, 6274, 92, 6344, 42, 14962), []int{3, 24, 68, 18, 94, 64, 96, 5, 29, 95, 2, 85}},
	} {
		checkBeam(t, ruled(c.count, c.start), c.v, c.k, c.beam, c.want, c.looked)
	}
}

// All graphs of three nodes, some of which have themselves as a neighbour, and all of four, two of which are as far.
func TestBeamOfEachGraph(t *testing.T) {
	var three, four [][]int
	samples.Subsets(3, func(list []int) { three = append(three, list) })
	samples.Subsets(4, func(list []int) { four = append(four, list) })
	for code := range 512 {
		g := samples.Joined(samples.OnLine(5, 3, 8), three[code&7], three[code>>3&7], three[code>>6])
		for beam := 1; beam <= 4; beam++ {
			g.Start = (code + beam) % 3
			for k := 1; k <= beam; k++ {
				checkPlain(t, g, []int8{int8(3 * k)}, k, beam)
			}
		}
	}
	for code := range 65536 {
		g := samples.Joined(samples.OnLine(6, 2, -2, 9), four[code&15], four[code>>4&15], four[code>>8&15], four[code>>12])
		beam := 1 + code%3
		for g.Start = range 4 {
			l, looked := plainBeam(g, []int8{0}, beam, beam)
			checkBeam(t, g, []int8{0}, beam, beam, l, looked)
		}
	}
}

func TestBeamOfDrawnGraphs(t *testing.T) {
	for seed := range uint64(100) {
		dim := 1 + int(seed%5)
		g := samples.Web(seed, 60, dim, 1+int(seed%7))
		draw := samples.Drawer(seed)
		for range 6 {
			beam := 1 + int(draw()%20)
			checkPlain(t, g, samples.Noise(draw(), dim), 1+int(draw()%uint64(beam)), beam)
		}
	}
}

// A node that leads on is behind one that doesn't: a list of one has no room for it.
func TestBeamGoesAsFarAsItsWidth(t *testing.T) {
	g := samples.Joined(samples.OnLine(10, 5, 6, 0), []int{2, 1}, nil, []int{3})
	checkBeam(t, g, []int8{0}, 1, 1, hits(1, 25), []int{0, 1})
	checkBeam(t, g, []int8{0}, 1, 2, hits(3, 0), []int{0, 1, 2, 3})
	checkBeam(t, g, []int8{0}, 2, 2, hits(3, 0, 1, 25), []int{0, 1, 2, 3})
	checkBeam(t, g, []int8{0}, 3, 3, hits(3, 0, 1, 25, 2, 36), []int{0, 1, 2, 3})
	checkBeam(t, g, []int8{0}, 4, 4, hits(3, 0, 1, 25, 2, 36, 0, 100), []int{0, 1, 2, 3})
}

// One that waits goes out of the list ahead of being looked at, and does not come again, though others lead to it.
func TestBeamForgetsWhatGoes(t *testing.T) {
	g := samples.Joined(samples.OnLine(20, 7, 8, 3, 2, 1), []int{1, 2}, []int{3, 4, 2}, []int{5}, []int{2}, []int{2})
	checkBeam(t, g, []int8{0}, 2, 2, hits(4, 4, 3, 9), []int{0, 1, 4, 3})
	checkBeam(t, g, []int8{0}, 3, 3, hits(4, 4, 3, 9, 1, 49), []int{0, 1, 4, 3})
	checkBeam(t, g, []int8{0}, 4, 4, hits(5, 1, 4, 4, 3, 9, 1, 49), []int{0, 1, 4, 3, 2, 5})
}

// The nearest that was not looked at is the next one, also if it came long ago.
func TestBeamLooksAtTheNearestFirst(t *testing.T) {
	g := samples.Joined(samples.OnLine(50, 10, 11, 12, 30, 20, 5), []int{1, 2, 3}, []int{4}, []int{5}, []int{6})
	checkBeam(t, g, []int8{0}, 1, 9, hits(6, 25), []int{0, 1, 2, 3, 6, 5, 4})
	g = samples.Joined(samples.OnLine(50, 10, 40, 9, 41, 8, 42), []int{2, 1}, []int{4, 3}, nil, []int{6, 5})
	checkBeam(t, g, []int8{0}, 1, 9, hits(5, 64), []int{0, 1, 3, 5, 2, 4, 6})
}

// Of nodes that are as far, those with less IDs are nearer, wherever they stand.
func TestBeamGoesByIDs(t *testing.T) {
	g := samples.Joined(samples.OnLine(9, 5, -5, 5), []int{3, 1, 2})
	samples.Orders([]int{0, 1, 2}, func(order []int) {
		for _, ids := range [][]uint64{{0, 1, 2}, {7, 1 << 31, 1 << 32}, {1 << 33, api.MaxNumber - 1, api.MaxNumber}, {1, 1<<63 - 1, 1<<64 - 1}} {
			places := make([]int, 3)
			for i, nth := range order {
				g.Nodes[1+i].ID = ids[nth]
				places[nth] = 1 + i
			}
			g.Nodes[0].ID = 5
			checkBeam(t, g, []int8{0}, 1, 3, []api.Hit{{ID: ids[0], Dist: 25}}, append([]int{0}, places...))
			checkBeam(t, g, []int8{0}, 2, 2, []api.Hit{{ID: ids[0], Dist: 25}, {ID: ids[1], Dist: 25}}, append([]int{0}, places[:2]...))
			checkBeam(t, g, []int8{0}, 1, 1, []api.Hit{{ID: ids[0], Dist: 25}}, []int{0, places[0]})
			checkExact(t, g, []int8{0}, 2, []api.Hit{{ID: ids[0], Dist: 25}, {ID: ids[1], Dist: 25}})
		}
	})
}

// In which order neighbours stand, and how often, counts nothing.
func TestBeamOfEachOrderOfNeighbours(t *testing.T) {
	g := samples.Joined(samples.OnLine(60, 4, -4, 30, 2, 9), nil, []int{3}, []int{5, 2, 2}, []int{4, 4, 0}, []int{4})
	for beam := 1; beam <= 6; beam++ {
		g.Nodes[0].Out = []int{1, 2, 3, 5}
		l, looked := plainBeam(g, []int8{0}, beam, beam)
		samples.Orders([]int{1, 2, 3, 5, 5, 0}, func(order []int) {
			g.Nodes[0].Out = order
			checkBeam(t, g, []int8{0}, beam, beam, l, looked)
		})
	}
}

// Each node is nearer than the one ahead of it: a walk through all of them, however wide the search is.
func TestBeamGoesDownhill(t *testing.T) {
	g, v := downhill()
	last := api.MaxItems - 1
	for _, beam := range []int{1, 2, 3, api.MaxHits} {
		checkBeam(t, g, v, beam, beam, plainNearest(g, v, beam, samples.UpTo(api.MaxItems)), samples.UpTo(api.MaxItems))
	}
	g.Start = 2000
	checkBeam(t, g, v, 1, 1, []api.Hit{hitAt(g, v, last)}, samples.UpTo(api.MaxItems)[2000:])
}

// Each node is farther than the one ahead of it: so many are looked at as the list has room for.
func TestBeamGoesUphill(t *testing.T) {
	g, _ := downhill()
	v := samples.Filled(api.MaxDim, -128)
	for beam := 1; beam <= api.MaxHits; beam++ {
		want := plainNearest(g, v, beam, samples.UpTo(beam))
		checkBeam(t, g, v, beam, beam, want, samples.UpTo(beam))
		checkBeam(t, g, v, 1, beam, want[:1], samples.UpTo(beam))
	}
}

func TestBeamAtTheLimits(t *testing.T) {
	g := samples.Web(1, api.MaxItems, api.MaxDim, api.MaxDegree)
	for seed := range uint64(3) {
		v := samples.Noise(seed, api.MaxDim)
		for _, beam := range []int{1, 17, api.MaxHits} {
			checkPlain(t, g, v, beam, beam)
		}
		checkNoBeam(t, g, v, 1, api.MaxHits+1)
		checkNoBeam(t, g, v, api.MaxHits+1, api.MaxHits+1)
		checkNoExact(t, g, v, api.MaxHits+1)
	}
	full, far := samples.FullGraph(), samples.Filled(api.MaxDim, 127)
	checkPlain(t, full, far, api.MaxHits, api.MaxHits)
	checkBeam(t, full, far, 1, 1, []api.Hit{{ID: api.MaxNumber - 2047, Dist: 64 * 255 * 255}}, []int{2047})
	full.Start = 0
	checkPlain(t, full, far, 1, 1)
	checkPlain(t, full, far, 3, 9)
	full.Nodes = append(full.Nodes, api.Node{ID: 0, V: far})
	checkRefused(t, full, far)
}

// More neighbours than a setup lets be, one of them many times, itself among them, and any ID.
func TestBeamTakesWhatHoldsTogether(t *testing.T) {
	g := samples.Web(1, 9, 3, 4)
	long := append(samples.UpTo(9), slices.Repeat([]int{3, 4, 8}, 5000)...)
	for place := range g.Nodes {
		g.Nodes[place].Out = long
	}
	g.Nodes[2].ID, g.Nodes[5].ID, g.Nodes[7].ID = api.MaxNumber+1, math.MaxUint64, 0
	for beam := 1; beam <= 10; beam++ {
		checkPlain(t, g, samples.Noise(uint64(beam), 3), beam, beam)
	}
}

func TestCallsOfNoNodes(t *testing.T) {
	for _, g := range []api.Graph{{}, {Nodes: []api.Node{}}, {Nodes: example().Nodes[:0]}} {
		for dim := 1; dim <= api.MaxDim; dim++ {
			for _, n := range []int{1, 2, api.MaxHits} {
				checkPlain(t, g, make([]int8, dim), 1, n)
				checkPlain(t, g, make([]int8, dim), n, n)
			}
		}
		checkRefused(t, g, nil)
		checkRefused(t, g, []int8{})
		checkRefused(t, g, make([]int8, api.MaxDim+1))
		for _, start := range append(samples.FarNumbers(), 1) {
			checkRefused(t, api.Graph{Nodes: g.Nodes, Start: start}, []int8{9})
		}
	}
}

func TestCallsRefuseNumbers(t *testing.T) {
	far := append(samples.FarNumbers(), 0, api.MaxHits+1, 2*api.MaxHits, api.MaxItems)
	for _, g := range []api.Graph{example(), {}, samples.Web(1, 300, 1, 4)} {
		for _, n := range far {
			checkNoExact(t, g, []int8{9}, n)
			for _, other := range append(far, 1, 2, api.MaxHits) {
				checkNoBeam(t, g, []int8{9}, n, other)
				checkNoBeam(t, g, []int8{9}, other, n)
			}
		}
		for beam := 1; beam <= api.MaxHits; beam++ {
			checkNoBeam(t, g, []int8{9}, beam+1, beam)
			checkNoBeam(t, g, []int8{9}, 0, beam)
			checkNoBeam(t, g, []int8{9}, -beam, beam)
		}
	}
}

// Vectors of each length, of which just one is right; and a graph in which one node's vector is of another one.
func TestCallsRefuseVectors(t *testing.T) {
	for _, dim := range []int{1, 2, 3, 63, 64, 65, 66, 256 + 1} {
		g := samples.Web(1, 5, dim, 3)
		for size := range 80 {
			if size != dim || size > api.MaxDim {
				checkRefused(t, g, make([]int8, size))
			} else {
				checkPlain(t, g, make([]int8, size), 2, 3)
			}
		}
		for place := range g.Nodes {
			for _, other := range []int{0, dim - 1, dim + 1} {
				bent := samples.CopyGraph(g)
				bent.Nodes[place].V = make([]int8, other)
				checkRefused(t, bent, make([]int8, dim))
				checkRefused(t, bent, make([]int8, other))
			}
		}
	}
	none := samples.Linked(0, []int{1}, nil)
	none.Nodes[0].V, none.Nodes[1].V = nil, []int8{}
	checkRefused(t, none, nil)
}

// Faults wherever they stand, also in nodes that are not reached.
func TestCallsRefuseGraphs(t *testing.T) {
	g, v := samples.Web(1, 9, 3, 4), []int8{1, 2, 3}
	taken := 0
	for _, fault := range samples.Faults(g, 4) {
		if plainMaySearch(fault.Graph, v) {
			checkPlain(t, fault.Graph, v, 2, 3)
			taken++
		} else {
			checkRefused(t, fault.Graph, v)
		}
	}
	if taken != 5 {
		t.Errorf("%d graphs with a fault may be searched", taken)
	}
	for place := range g.Nodes {
		for _, wrong := range append(samples.FarNumbers(), 9, 10, api.MaxItems) {
			bent := samples.CopyGraph(g)
			bent.Nodes[place].Out = append(bent.Nodes[place].Out, wrong, 0)
			checkRefused(t, bent, v)
			bent = samples.CopyGraph(g)
			bent.Start = wrong
			checkRefused(t, bent, v)
		}
		for other := range g.Nodes[:place] {
			bent := samples.CopyGraph(g)
			bent.Nodes[place].ID = bent.Nodes[other].ID
			checkRefused(t, bent, v)
		}
	}
}

// P11.2

func TestExactKnown(t *testing.T) {
	g := example()
	checkExact(t, g, []int8{9}, 1, hits(9, 0))
	checkExact(t, g, []int8{9}, 2, hits(9, 0, 6, 1))
	checkExact(t, g, []int8{9}, 3, hits(9, 0, 6, 1, 8, 16))
	checkExact(t, g, []int8{9}, 9, hits(9, 0, 6, 1, 8, 16, 7, 81))
	checkExact(t, g, []int8{9}, 256, hits(9, 0, 6, 1, 8, 16, 7, 81))
	checkExact(t, g, []int8{-128}, 2, hits(7, 128*128, 8, 133*133))
	checkNoExact(t, g, []int8{9}, 0)
	checkNoExact(t, g, []int8{9}, 257)
	checkNoExact(t, g, []int8{9, 9}, 1)
	checkExact(t, api.Graph{}, []int8{9}, 1, nil)
}

// Numbers reckoned outside the program.
func TestExactReckonedOutside(t *testing.T) {
	for _, c := range []struct {
		count int
		v     []int8
		k     int
		want  []api.Hit
	}{
		{12, []int8{0, 0}, 1, hits(14, 1450)},
		{12, []int8{0, 0}, 3, hits(14, 1450, 34, 3604, 72, 3961)},
		{12, []int8{-100, 90}, 2, hits(24, 5058, 72, 7461)},
		{40, []int8{0, 0}, 4, hits(50, 613, 51, 617, 14, 1450, 22, 1802)},
		{40, []int8{50, -20}, 3, hits(80, 578, 3, 641, 90, 845)},
		{40, []int8{127, -128}, 5, hits(82, 4589, 41, 7897, 40, 9193, 23, 9333, 21, 10469)},
		{97, []int8{0, 0}, 4, hits(94, 40, 46, 290, 50, 613, 51, 617)},
		{97, []int8{50, -20}, 4, hits(73, 45, 88, 157, 30, 338, 20, 353)},
		{97, []int8{-128, -128}, 3, hits(5, 2228, 81, 3809, 67, 4264)},
		{97, []int8{127, 127}, 6, hits(0, 4546, 63, 6274, 92, 6344, 93, 8420, 91, 9773, 1, 10858)},
	} {
		checkExact(t, ruled(c.count, c.count/2), c.v, c.k, c.want)
		checkExact(t, samples.Ruled(c.count), c.v, c.k, c.want)
	}
}

// Which neighbours nodes have, and where Start is, count nothing; nor does the order of the nodes.
func TestExactAsksForNodesAlone(t *testing.T) {
	for seed := range uint64(20) {
		g, v := samples.Web(seed, 30, 2, 6), samples.Noise(seed, 2)
		want := plainNearest(g, v, 12, samples.UpTo(30))
		slices.Reverse(g.Nodes)
		checkExact(t, g, v, 12, want)
		for i := range g.Nodes {
			g.Nodes[i].Out = nil
		}
		g.Start = (g.Start + 7) % 30
		checkExact(t, g, v, 12, want)
	}
}

func TestExactOfEachNumber(t *testing.T) {
	g, v := samples.Web(1, 270, 2, 3), samples.Noise(9, 2)
	all := plainNearest(g, v, 270, samples.UpTo(270))
	for k := 1; k <= api.MaxHits; k++ {
		checkExact(t, g, v, k, all[:k])
	}
	g, _ = downhill()
	checkExact(t, g, g.Nodes[1000].V, 3, hits(1000, 0, 999, 7, 1001, 7))
}

// P11.3

func TestSharedKnown(t *testing.T) {
	checkShared(t, hits(9, 0, 8, 16), hits(8, 1, 8, 2, 5, 0), 1)
	checkShared(t, hits(8, 1, 8, 2, 5, 0), hits(8, 1, 8, 2, 5, 0), 2)
	checkShared(t, hits(8, 1, 8, 2, 8, 3), hits(8, 1, 8, 2), 1)
	checkShared(t, hits(1, 5, 2, 5), hits(3, 5, 4, 5), 0)
	checkShared(t, hits(1, 5), hits(5, 1), 0)
	checkShared(t, hits(1, 5), nil, 0)
	checkShared(t, []api.Hit{}, nil, 0)
	checkShared(t, hits(0, 0), hits(0, 7), 1)
	checkShared(t, hits(0, 0), nil, 0)
	checkShared(t, []api.Hit{{ID: math.MaxUint64, Dist: -1}, {Dist: math.MinInt64}}, []api.Hit{{Dist: math.MaxInt64}, {ID: math.MaxUint64}, {ID: 1 << 63, Dist: -1}}, 2)
	checkShared(t, []api.Hit{{ID: 1 << 32}, {ID: 1 << 62}}, []api.Hit{{ID: 0}, {ID: 1 << 33}}, 0)
}

// All pairs of sets of a few numbers, in some orders, with some of them twice.
func TestSharedOfEachPair(t *testing.T) {
	samples.Subsets(5, func(a []int) {
		samples.Subsets(5, func(b []int) {
			var l, r []api.Hit
			want := 0
			for i, id := range a {
				l = append(l, api.Hit{ID: uint64(id), Dist: int64(i)})
				if slices.Contains(b, id) {
					want++
				}
			}
			for i, id := range b {
				r = append(r, api.Hit{ID: uint64(id), Dist: int64(-i)})
			}
			checkShared(t, l, r, want)
			checkShared(t, slices.Concat(l, l), r, want)
			slices.Reverse(l)
			checkShared(t, l, slices.Concat(r, r, r), want)
		})
	})
}

// Lists longer than a search's.
func TestSharedOfLongLists(t *testing.T) {
	var a, b []api.Hit
	for i := range 20000 {
		a = append(a, api.Hit{ID: uint64(2 * (i % 9000)), Dist: int64(i)})
		b = append(b, api.Hit{ID: uint64(3 * i), Dist: 1})
	}
	checkShared(t, a, b, 3000)
	checkShared(t, a, a, 9000)
}

// P11.4

// checkFollows: what Beam finds is there, each once, the nearest first; what it looked at is reached, each once, from Start on; if the search is wide enough, these are all, and what it finds are the nearest of them.
func checkFollows(t *testing.T, g api.Graph, v []int8, k, beam int) {
	t.Helper()
	l, looked, _ := search.Beam(g, v, k, beam)
	reached, _ := graph.Reached(g)
	for i, x := range l {
		place := graph.Find(g, x.ID)
		if place == -1 || x != hitAt(g, v, place) || i > 0 && plainNearer(l[i-1], x) >= 0 || !slices.Contains(looked, place) {
			t.Errorf("Beam(%v, %v, %d, %d) = %v", samples.TellGraph(g), v, k, beam, l)
		}
	}
	if len(l) > k || len(l) == 0 && len(g.Nodes) > 0 || len(looked) > 0 && looked[0] != g.Start {
		t.Errorf("Beam(%v, %v, %d, %d) = %v, %v", samples.TellGraph(g), v, k, beam, l, looked)
	}
	unlike := slices.Compact(slices.Sorted(slices.Values(looked)))
	wrong := func(place int) bool { return !slices.Contains(reached, place) }
	if len(unlike) != len(looked) || slices.ContainsFunc(looked, wrong) {
		t.Errorf("Beam(%v, %v, %d, %d) looked at %v; reached are %v", samples.TellGraph(g), v, k, beam, looked, reached)
	}
	if beam >= len(reached) && (!slices.Equal(unlike, reached) || !slices.Equal(l, plainNearest(g, v, k, reached))) {
		t.Errorf("Beam(%v, %v, %d, %d) = %v, %v; reached are %v", samples.TellGraph(g), v, k, beam, l, looked, reached)
	}
}

// Of a graph all of whose nodes are reached, a search that is wide enough finds what Exact finds.
func TestWideBeamFindsTheNearest(t *testing.T) {
	for seed := range uint64(15) {
		g := samples.Web(seed, 256, 3, 5)
		for i := range g.Nodes {
			g.Nodes[i].Out = append(g.Nodes[i].Out, (i+1)%256)
		}
		v := samples.Noise(seed+100, 3)
		for _, k := range []int{1, 10, 255, 256} {
			exact, e := search.Exact(g, v, k)
			l, looked, f := search.Beam(g, v, k, 256)
			if e != api.OK || f != api.OK || len(looked) != 256 || len(l) != k || search.Shared(exact, l) != k || !slices.Equal(exact, l) {
				t.Errorf("seed %d: %d of %d, %d looked at, %d, %d", seed, search.Shared(exact, l), k, len(looked), e, f)
			}
		}
	}
}

// R4, R5

func TestArgumentsStayAsTheyAre(t *testing.T) {
	g, look := samples.RoomyGraph(samples.Web(1, 30, 4, 6))
	room := samples.Noise(3, 9)
	a, b := hits(1, 5, 2, 6, 3, 7), hits(2, 1, 9, 9, 2, 4)
	ahead, v := look(), slices.Clone(room)
	for range 2 {
		for beam := 1; beam < 40; beam += 3 {
			checkPlain(t, g, room[:4], 1+beam/2, beam)
		}
		checkRefused(t, g, room[:5])
		checkShared(t, a[:2], b[:2], 1)
	}
	if !samples.SameGraph(look(), ahead) || !slices.Equal(room, v) {
		t.Errorf("the graph is %v, the vector %v; they were %v, %v", look(), room, ahead, v)
	}
	if !slices.Equal(a, hits(1, 5, 2, 6, 3, 7)) || !slices.Equal(b, hits(2, 1, 9, 9, 2, 4)) {
		t.Errorf("%v, %v", a, b)
	}
}

// What stands in a list's spare room does not count.
func TestSpareRoomDoesNotCount(t *testing.T) {
	for seed := range uint64(20) {
		plain := samples.Web(seed, 30, 4, 6)
		g, _ := samples.RoomyGraph(plain)
		room := samples.Noise(seed, 8)
		l, looked := plainBeam(plain, room[:4], 3, 5)
		checkBeam(t, g, room[:4], 3, 5, l, looked)
		checkExact(t, g, room[:4], 9, plainNearest(plain, room[:4], 9, samples.UpTo(30)))
		checkRefused(t, g, room[:3])
	}
	checkShared(t, hits(1, 1, 2, 2)[:1], hits(2, 2, 1, 1)[:1], 0)
}

// Whatever is done to an answer: what was handed in stays, and other answers do.
func TestAnswersShareNoMemory(t *testing.T) {
	g, look := samples.RoomyGraph(samples.Web(1, 30, 4, 6))
	room := samples.Noise(3, 9)
	ahead, v := look(), slices.Clone(room)
	want, order := plainBeam(g, room[:4], 5, 20)
	nearest := plainNearest(g, room[:4], 5, samples.UpTo(30))
	for range 3 {
		l, looked, _ := search.Beam(g, room[:4], 5, 20)
		exact, _ := search.Exact(g, room[:4], 5)
		spoilHits(l)
		if !slices.Equal(looked, order) || !slices.Equal(exact, nearest) {
			t.Fatalf("%v, %v; want %v, %v", looked, exact, order, nearest)
		}
		again, lookedAgain, _ := search.Beam(g, room[:4], 5, 20)
		for i := range looked[:cap(looked)] {
			looked[:cap(looked)][i] = 99
		}
		spoilHits(exact)
		if !slices.Equal(again, want) || !slices.Equal(lookedAgain, order) || !samples.SameGraph(look(), ahead) || !slices.Equal(room, v) {
			t.Fatalf("%v, %v; want %v, %v", again, lookedAgain, want, order)
		}
		checkExact(t, g, room[:4], 5, nearest)
	}
}

func spoilHits(l []api.Hit) {
	for i := range l[:cap(l)] {
		l[:cap(l)][i] = api.Hit{ID: 99, Dist: 99}
	}
}

// What was handed in may be changed: an answer stays.
func TestAnswersKeepNoArgument(t *testing.T) {
	plain := samples.Web(1, 30, 4, 6)
	g, _ := samples.RoomyGraph(plain)
	v := samples.Noise(3, 4)
	want, order := plainBeam(plain, v, 5, 20)
	nearest := plainNearest(plain, v, 5, samples.UpTo(30))
	l, looked, _ := search.Beam(g, v, 5, 20)
	exact, _ := search.Exact(g, v, 5)
	samples.SpoilGraph(g)
	clear(v)
	if !slices.Equal(l, want) || !slices.Equal(looked, order) || !slices.Equal(exact, nearest) {
		t.Errorf("%v, %v, %v; want %v, %v, %v", l, looked, exact, want, order, nearest)
	}
}

// An answer hangs on what is handed in alone, not on the calls ahead of it.
func TestCallsAheadChangeNothing(t *testing.T) {
	g, big := example(), samples.Web(3, 200, 2, 4)
	for range 3 {
		checkBeam(t, g, []int8{9}, 2, 3, hits(9, 0, 8, 16), []int{0, 1, 2})
		checkPlain(t, big, []int8{1, 2}, 7, 9)
		checkRefused(t, big, []int8{1})
		checkExact(t, g, []int8{9}, 2, hits(9, 0, 6, 1))
		checkShared(t, hits(9, 0, 8, 16), hits(8, 1, 8, 2, 5, 0), 1)
	}
}

// Calls that run side by side don't meet.
func TestCallsSideBySide(t *testing.T) {
	g := ruled(40, 0)
	done := make(chan int)
	for n := range 40 {
		go func() {
			v := []int8{int8(3 * n), int8(-n)}
			l, looked := plainBeam(g, v, 3, 6)
			checkBeam(t, g, v, 3, 6, l, looked)
			checkExact(t, g, v, 3, plainNearest(g, v, 3, samples.UpTo(40)))
			done <- n
		}()
	}
	for range 40 {
		<-done
	}
}

// FuzzSearch holds both searches, of a graph that is made of bytes, against the plain ones.
func FuzzSearch(f *testing.F) {
	f.Add([]byte{1, 10, 2, 3}, []byte{4, 5, 6}, 2, 3)
	f.Add([]byte{9, 17, 0, 4, 0, 0, 1, 7, 0, 2, 9, 9, 9, 9, 9, 9, 9, 9, 9, 9, 9, 9, 30, 5, 4, 3, 2, 1, 0}, []byte{0}, 256, 256)
	f.Add([]byte{5, 6, 1, 2, 3, 4, 0, 5, 6, 0, 0, 255, 12}, []byte{200, 100}, 1, math.MinInt)
	f.Fuzz(func(t *testing.T, bytes, numbers []byte, k, beam int) {
		g := samples.BentGraph(samples.Bytes(bytes))
		var v []int8
		for _, n := range numbers {
			v = append(v, int8(n))
		}
		may := plainMaySearch(g, v)
		if may && 1 <= k && k <= 256 {
			checkExact(t, g, v, k, plainNearest(g, v, k, samples.UpTo(len(g.Nodes))))
		} else {
			checkNoExact(t, g, v, k)
		}
		if may && 1 <= beam && beam <= 256 && 1 <= k && k <= beam {
			checkPlain(t, g, v, k, beam)
		} else {
			checkNoBeam(t, g, v, k, beam)
		}
	})
}

func BenchmarkBeam(b *testing.B) {
	g, v := samples.Web(1, api.MaxItems, api.MaxDim, api.MaxDegree), samples.Noise(7, api.MaxDim)
	for b.Loop() {
		search.Beam(g, v, api.MaxHits, api.MaxHits)
	}
}

func BenchmarkNarrowBeam(b *testing.B) {
	g, v := samples.Web(1, api.MaxItems, api.MaxDim, api.MaxDegree), samples.Noise(7, api.MaxDim)
	for b.Loop() {
		search.Beam(g, v, 1, 1)
	}
}

func BenchmarkExact(b *testing.B) {
	g, v := samples.Web(1, api.MaxItems, api.MaxDim, api.MaxDegree), samples.Noise(7, api.MaxDim)
	for b.Loop() {
		search.Exact(g, v, api.MaxHits)
	}
}
