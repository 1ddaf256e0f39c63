package samples

import (
	"slices"

	"lodestone/api"
)

// Linked makes a graph of one node for each Out: the i-th one has the ID 100 + i, and a vector of one number, i (as far as it goes).
func Linked(start int, outs ...[]int) api.Graph {
	g := api.Graph{Start: start}
	for i, out := range outs {
		g.Nodes = append(g.Nodes, api.Node{ID: uint64(100 + i), V: []int8{int8(i)}, Out: out})
	}
	return g
}

// Dots makes a graph of the vectors, whose IDs are their places, without neighbours.
func Dots(vectors ...[]int8) api.Graph {
	g := api.Graph{}
	for i, v := range vectors {
		g.Nodes = append(g.Nodes, api.Node{ID: uint64(i), V: v})
	}
	return g
}

// OnLine makes a graph as Dots does, of vectors of one number each.
func OnLine(list ...int8) api.Graph { return Dots(Line(list...)...) }

// Joined gives the nodes of a graph their neighbours, one list each; those that are left stay as they are.
func Joined(g api.Graph, outs ...[]int) api.Graph {
	for i, out := range outs {
		g.Nodes[i].Out = out
	}
	return g
}

// Ruled makes a graph of at most 97 nodes, without neighbours, by a rule that numbers reckoned outside the program know too.
func Ruled(count int) api.Graph {
	g := api.Graph{}
	for i := range count {
		v := []int8{int8((37*i*i+11*i)%201 - 100), int8((53*i+7*i*i*i)%181 - 90)}
		g.Nodes = append(g.Nodes, api.Node{ID: uint64((29*i + 5) % 97), V: v})
	}
	return g
}

// RuledWeb makes a graph of the nodes of Ruled, which have so many neighbours at most, by a rule that numbers reckoned outside the program know too.
func RuledWeb(count, degree, start int) api.Graph {
	g := Ruled(count)
	g.Start = start
	for i := range count {
		out := []int{}
		for _, place := range []int{(7*i + 3) % count, (5*i*i + 1) % count, (3*i + 8) % count, (i*i*i + 2*i) % count} {
			if place != i && !slices.Contains(out, place) && len(out) < degree {
				out = append(out, place)
			}
		}
		g.Nodes[i].Out = out
	}
	return g
}

// Joins calls f with each way in which a graph's nodes can be joined, each with at most so many neighbours, in each order of these; and with the how-many-th one it is. What f is given holds until it ends.
func Joins(g api.Graph, degree int, f func(nth int, g api.Graph)) {
	g.Nodes = slices.Clone(g.Nodes)
	nth := 0
	var put func(at int)
	put = func(at int) {
		if at == len(g.Nodes) {
			f(nth, g)
			nth++
			return
		}
		eachOut(len(g.Nodes), at, degree, func(out []int) {
			g.Nodes[at].Out = out
			put(at + 1)
		})
	}
	put(0)
}

// eachOut calls f with each list of at most so many of the nodes but one, in each order.
func eachOut(count, own, degree int, f func([]int)) {
	Subsets(count, func(list []int) {
		if len(list) <= degree && !slices.Contains(list, own) {
			Orders(list, func(out []int) { f(slices.Clone(out)) })
		}
	})
}

// Web makes a graph that may be, of so many nodes, with vectors of so many numbers, and so many neighbours at most, without a pattern, the same one for the same seed.
func Web(seed uint64, count, size, degree int) api.Graph {
	draw := Drawer(seed)
	g := api.Graph{}
	for own := range count {
		id := draw()<<12 | uint64(own)
		g.Nodes = append(g.Nodes, api.Node{ID: id, V: Noise(draw(), size), Out: webOut(draw, own, count, degree)})
	}
	if count > 0 {
		g.Start = int(draw() % uint64(count))
	}
	return g
}

// webOut draws places of other nodes, unlike ones.
func webOut(draw func() uint64, own, count, degree int) []int {
	var out []int
	for range draw() % uint64(degree+1) {
		place := int(draw() % uint64(count))
		if place != own && !slices.Contains(out, place) {
			out = append(out, place)
		}
	}
	return out
}

// SameGraph says whether two graphs have the same nodes, in order, and the same Start.
func SameGraph(a, b api.Graph) bool {
	return a.Start == b.Start && slices.EqualFunc(a.Nodes, b.Nodes, func(a, b api.Node) bool {
		return a.ID == b.ID && slices.Equal(a.V, b.V) && slices.Equal(a.Out, b.Out)
	})
}

// CopyGraph makes a copy of a graph, and of each list in it.
func CopyGraph(g api.Graph) api.Graph {
	g.Nodes = slices.Clone(g.Nodes)
	for i, node := range g.Nodes {
		g.Nodes[i].V, g.Nodes[i].Out = slices.Clone(node.V), slices.Clone(node.Out)
	}
	return g
}

// RoomyGraph makes a copy of a graph all of whose lists have spare room, and a function that tells what all of it looks like: if any of it is changed, it tells something else.
func RoomyGraph(g api.Graph) (roomy api.Graph, look func() api.Graph) {
	roomy = CopyGraph(g)
	roomy.Nodes = append(roomy.Nodes, api.Node{ID: 1, V: []int8{2}, Out: []int{3}}, api.Node{ID: 4})
	for i, node := range roomy.Nodes {
		v, out := append(node.V, 5, 6, 7), append(node.Out, 8, 9, 10)
		roomy.Nodes[i].V, roomy.Nodes[i].Out = v[:len(node.V)], out[:len(node.Out)]
	}
	all := roomy.Nodes
	roomy.Nodes = all[:len(g.Nodes)]
	return roomy, func() api.Graph {
		now := CopyGraph(api.Graph{Nodes: all, Start: roomy.Start})
		for i, node := range all {
			now.Nodes[i].V = slices.Clone(node.V[:cap(node.V)])
			now.Nodes[i].Out = append(slices.Clone(node.Out[:cap(node.Out)]), len(node.V), len(node.Out))
		}
		return now
	}
}

// SpoilGraph writes over all that a graph's lists have, their spare room too.
func SpoilGraph(g api.Graph) {
	nodes := g.Nodes[:cap(g.Nodes)]
	for i, node := range nodes {
		v, out := node.V[:cap(node.V)], node.Out[:cap(node.Out)]
		for j := range v {
			v[j] = 99
		}
		for j := range out {
			out[j] = 99
		}
		nodes[i] = api.Node{ID: 99}
	}
}

// SharedLists tells the places of those nodes whose vector or neighbours share memory, spare room too, with another list of the graph; each time, of a new one that is made.
func SharedLists(fresh func() api.Graph) []int {
	var shared []int
	want := CopyGraph(fresh())
	for place := range want.Nodes {
		g, changed := fresh(), CopyGraph(want)
		node, other := g.Nodes[place], &changed.Nodes[place]
		node.V, node.Out = node.V[:cap(node.V)], node.Out[:cap(node.Out)]
		for i := range node.V {
			node.V[i] = 99
		}
		for i := range node.Out {
			node.Out[i] = 99
		}
		other.V, other.Out = Filled(len(other.V), 99), slices.Repeat([]int{99}, len(other.Out))
		if !SameGraph(g, changed) {
			shared = append(shared, place)
		}
	}
	return shared
}

// FullGraph makes a graph that may be, with as many nodes, neighbours and numbers as can be, and the greatest IDs.
func FullGraph() api.Graph {
	g := api.Graph{Start: api.MaxItems - 1}
	for own := range api.MaxItems {
		var out []int
		for step := range api.MaxDegree {
			out = append(out, (own+7*(step+1))%api.MaxItems)
		}
		g.Nodes = append(g.Nodes, api.Node{ID: api.MaxNumber - uint64(own), V: Filled(api.MaxDim, -128), Out: out})
	}
	return g
}

// Fault is a graph that may not be, and what is wrong with it.
type Fault struct {
	Name  string
	Graph api.Graph
}

// Faults makes graphs that may not be, each with one fault, of one that may be for that degree, and has at least two nodes more.
func Faults(g api.Graph, degree int) []Fault {
	count := len(g.Nodes)
	var faults []Fault
	add := func(name string, change func(g *api.Graph, last *api.Node)) {
		other := CopyGraph(g)
		change(&other, &other.Nodes[count-1])
		faults = append(faults, Fault{name, other})
	}
	add("a Start too high", func(g *api.Graph, _ *api.Node) { g.Start = count })
	add("a Start below 0", func(g *api.Graph, _ *api.Node) { g.Start = -1 })
	add("one more neighbour", func(_ *api.Graph, last *api.Node) { last.Out = UpTo(degree + 1) })
	add("a neighbour twice", func(_ *api.Graph, last *api.Node) { last.Out = []int{0, 0} })
	add("itself", func(_ *api.Graph, last *api.Node) { last.Out = []int{count - 1} })
	add("a place too high", func(_ *api.Graph, last *api.Node) { last.Out = []int{count} })
	add("a place below 0", func(_ *api.Graph, last *api.Node) { last.Out = []int{-1} })
	add("one more number", func(_ *api.Graph, last *api.Node) { last.V = append(last.V, 0) })
	add("a number less", func(_ *api.Graph, last *api.Node) { last.V = last.V[1:] })
	add("no number", func(_ *api.Graph, last *api.Node) { last.V = nil })
	add("an ID twice", func(g *api.Graph, last *api.Node) { last.ID = g.Nodes[0].ID })
	add("an ID above MaxNumber", func(_ *api.Graph, last *api.Node) { last.ID = api.MaxNumber + 1 })
	add("the greatest of all IDs", func(_ *api.Graph, last *api.Node) { last.ID = 1<<64 - 1 })
	add("a node more than MaxItems", func(g *api.Graph, last *api.Node) {
		for place := count; place <= api.MaxItems; place++ {
			g.Nodes = append(g.Nodes, api.Node{ID: api.MaxNumber - uint64(place), V: slices.Clone(last.V)})
		}
	})
	return faults
}

// BentGraph makes of what is drawn a graph that may be, or may just not be: now and then something in it is wrong.
func BentGraph(draw func() uint64) api.Graph {
	g := Web(draw(), int(draw()%20), int(1+draw()%3), int(draw()%5))
	wrong := func() int { return int(draw()%30) - 5 }
	for place := range g.Nodes {
		node := &g.Nodes[place]
		switch draw() {
		case 1:
			node.Out = append(node.Out, wrong())
		case 2:
			node.Out = append(node.Out, wrong(), wrong())
		case 3:
			node.ID = g.Nodes[draw()%uint64(len(g.Nodes))].ID
		case 4:
			node.ID |= 1 << 62
		case 5:
			node.V = append(node.V, 0)
		case 6:
			node.V = nil
		}
	}
	if draw() > 200 {
		g.Start = wrong()
	}
	return g
}

// TellGraph is how a graph stands in a test's words: large ones are cut.
func TellGraph(g api.Graph) api.Graph {
	g.Nodes = g.Nodes[:min(len(g.Nodes), 20)]
	return g
}
