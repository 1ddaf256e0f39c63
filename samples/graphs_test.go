package samples_test

import (
	"slices"
	"testing"

	"lodestone/api"
	"lodestone/graph"
	"lodestone/samples"
)

func TestLinked(t *testing.T) {
	want := api.Graph{Start: 1, Nodes: []api.Node{{ID: 100, V: []int8{0}, Out: []int{1, 2}}, {ID: 101, V: []int8{1}}}}
	if g := samples.Linked(1, []int{1, 2}, nil); !samples.SameGraph(g, want) {
		t.Errorf("%v", g)
	}
	if g := samples.Linked(0); len(g.Nodes) != 0 || g.Start != 0 {
		t.Errorf("%v", g)
	}
}

func TestDots(t *testing.T) {
	want := api.Graph{Nodes: []api.Node{{ID: 0, V: []int8{5}}, {ID: 1, V: []int8{-7}}, {ID: 2, V: []int8{5}}}}
	if g := samples.Dots([]int8{5}, []int8{-7}, []int8{5}); !samples.SameGraph(g, want) {
		t.Errorf("%v", g)
	}
	if g := samples.OnLine(5, -7, 5); !samples.SameGraph(g, want) {
		t.Errorf("%v", g)
	}
	if g := samples.Dots(); len(g.Nodes) != 0 || g.Start != 0 {
		t.Errorf("%v", g)
	}
}

func TestJoined(t *testing.T) {
	want := api.Graph{Nodes: []api.Node{{ID: 0, V: []int8{5}, Out: []int{2, 1}}, {ID: 1, V: []int8{-7}}, {ID: 2, V: []int8{5}}}}
	if g := samples.Joined(samples.OnLine(5, -7, 5), []int{2, 1}, nil); !samples.SameGraph(g, want) {
		t.Errorf("%v", g)
	}
	if g := samples.Joined(samples.Linked(0, nil, []int{0})); !samples.SameGraph(g, samples.Linked(0, nil, []int{0})) {
		t.Errorf("%v", g)
	}
}

func TestRuled(t *testing.T) {
	g := samples.Ruled(97)
	want := samples.Dots([]int8{-100, -90}, []int8{-52, -30})
	want.Nodes[0].ID, want.Nodes[1].ID = 5, 34
	if !samples.SameGraph(samples.Ruled(2), want) || !graph.Check(g, samples.LeastSetup(2)) || len(g.Nodes) != 97 {
		t.Errorf("%v", samples.TellGraph(g))
	}
	if !samples.SameGraph(api.Graph{Nodes: g.Nodes[:9]}, samples.Ruled(9)) {
		t.Error("how many there are changes what they are")
	}
}

func TestRuledWeb(t *testing.T) {
	for degree := range 5 {
		for count := 2; count <= 97; count++ {
			g, s := samples.RuledWeb(count, degree, count-1), samples.WideSetup(2)
			s.Degree = max(degree, 1)
			bare := samples.Bare(samples.Items(g)...)
			if !graph.Check(g, s) || g.Start != count-1 || !samples.SameGraph(bare, samples.Ruled(count)) {
				t.Errorf("%d: %v", count, g)
			}
		}
	}
	want := samples.Joined(samples.Ruled(3), []int{1, 2}, []int{0, 2}, []int{0})
	if g := samples.RuledWeb(3, 2, 0); !samples.SameGraph(g, want) {
		t.Errorf("%v", g)
	}
	if g := samples.RuledWeb(3, 1, 0); !samples.SameGraph(g, samples.Joined(samples.Ruled(3), []int{1}, []int{0}, []int{0})) {
		t.Errorf("%v", g)
	}
}

// Each way comes once: 1, 4 and 125 of one, two and three nodes with at most two neighbours; the graph stays as it was.
func TestJoins(t *testing.T) {
	for count, want := range map[int]int{0: 1, 1: 1, 2: 4, 3: 125} {
		g := samples.Joined(samples.Bare(samples.Items(samples.Ruled(count))...))
		seen := map[string]int{}
		samples.Joins(g, 2, func(nth int, g api.Graph) {
			told := ""
			for _, node := range g.Nodes {
				for _, next := range node.Out {
					told += string(rune('0' + next))
				}
				told += ";"
			}
			if nth != len(seen) || !graph.Check(g, samples.WideSetup(2)) {
				t.Errorf("%d: %v", nth, g)
			}
			seen[told]++
		})
		if len(seen) != want || !samples.SameGraph(g, samples.Ruled(count)) {
			t.Errorf("%d nodes: %d ways; %v", count, len(seen), g)
		}
	}
	ways := 0
	samples.Joins(samples.Ruled(3), 1, func(int, api.Graph) { ways++ })
	if ways != 27 {
		t.Errorf("%d ways", ways)
	}
}

func TestWeb(t *testing.T) {
	for _, count := range []int{0, 1, 2, 50, api.MaxItems} {
		g := samples.Web(1, count, 3, 5)
		if len(g.Nodes) != count || !samples.SameGraph(g, samples.Web(1, count, 3, 5)) || g.Start < 0 || g.Start >= max(count, 1) {
			t.Fatalf("%d nodes, Start %d", len(g.Nodes), g.Start)
		}
		ids, most := map[uint64]bool{}, 0
		for own, node := range g.Nodes {
			ids[node.ID] = true
			unlike := slices.Compact(slices.Sorted(slices.Values(node.Out)))
			most = max(most, len(node.Out))
			if len(node.V) != 3 || len(unlike) != len(node.Out) || slices.Contains(node.Out, own) {
				t.Errorf("%d: %v", own, node)
			}
		}
		if len(ids) != count || most > 5 || count > 20 && most != 5 {
			t.Errorf("%d IDs, %d neighbours at most", len(ids), most)
		}
	}
	if samples.SameGraph(samples.Web(1, 9, 3, 5), samples.Web(2, 9, 3, 5)) {
		t.Error("two seeds make the same")
	}
}

func TestSameGraph(t *testing.T) {
	some := func() api.Graph { return samples.Linked(1, []int{1, 2}, nil, []int{0}) }
	for name, change := range map[string]func(g *api.Graph){
		"the Start":   func(g *api.Graph) { g.Start = 0 },
		"an ID":       func(g *api.Graph) { g.Nodes[2].ID++ },
		"a number":    func(g *api.Graph) { g.Nodes[2].V[0]++ },
		"a neighbour": func(g *api.Graph) { g.Nodes[2].Out[0]++ },
		"the order":   func(g *api.Graph) { slices.Reverse(g.Nodes[0].Out) },
		"a node less": func(g *api.Graph) { g.Nodes = g.Nodes[:2] },
	} {
		g := some()
		if !samples.SameGraph(g, some()) {
			t.Error("the same graphs")
		}
		change(&g)
		if samples.SameGraph(g, some()) {
			t.Errorf("%s is changed, and they are the same", name)
		}
	}
	if !samples.SameGraph(api.Graph{}, api.Graph{Nodes: []api.Node{}}) {
		t.Error("no nodes")
	}
}

func TestCopyGraph(t *testing.T) {
	g := samples.Web(1, 9, 3, 5)
	other := samples.CopyGraph(g)
	samples.SpoilGraph(g)
	if !samples.SameGraph(other, samples.Web(1, 9, 3, 5)) {
		t.Errorf("%v", other)
	}
}

// Whatever is changed is told.
func TestRoomyGraph(t *testing.T) {
	for name, change := range map[string]func(g api.Graph){
		"an ID":                     func(g api.Graph) { g.Nodes[1].ID++ },
		"a number":                  func(g api.Graph) { g.Nodes[1].V[0]++ },
		"a neighbour":               func(g api.Graph) { g.Nodes[1].Out[0]++ },
		"a vector's spare room":     func(g api.Graph) { g.Nodes[1].V[:2][1]++ },
		"an Out's spare room":       func(g api.Graph) { g.Nodes[0].Out[:1][0]++ },
		"a shorter vector":          func(g api.Graph) { g.Nodes[1].V = g.Nodes[1].V[:0] },
		"a shorter Out":             func(g api.Graph) { g.Nodes[1].Out = g.Nodes[1].Out[:0] },
		"the nodes' spare room":     func(g api.Graph) { g.Nodes[:4][3].ID++ },
		"the neighbours of a spare": func(g api.Graph) { g.Nodes[:3][2].Out[0]++ },
	} {
		want := samples.Linked(1, nil, []int{0})
		g, look := samples.RoomyGraph(want)
		ahead := look()
		if !samples.SameGraph(g, want) || !samples.SameGraph(look(), ahead) {
			t.Fatalf("%v", g)
		}
		change(g)
		if samples.SameGraph(look(), ahead) {
			t.Errorf("%s is changed, and not told", name)
		}
	}
}

func TestSpoilGraph(t *testing.T) {
	g, look := samples.RoomyGraph(samples.Linked(0, []int{1}, []int{0}))
	v, out := g.Nodes[0].V, g.Nodes[1].Out
	samples.SpoilGraph(g)
	if !slices.Equal(v[:3], samples.Filled(3, 99)) || !slices.Equal(out[:3], []int{99, 99, 99}) {
		t.Errorf("%v, %v", v[:3], out[:3])
	}
	for _, node := range look().Nodes[:4] {
		if node.ID != 99 || len(node.V) != 0 {
			t.Errorf("%v", node)
		}
	}
}

// Memory that lists share is found, where it is spare room too.
func TestSharedLists(t *testing.T) {
	out, v := []int{2, 1, 3, 0, 1, 2}, []int8{1, 2, 3, 4, 5, 6}
	for name, c := range map[string]struct {
		change func(nodes []api.Node)
		want   []int
	}{
		"nothing":           {func(nodes []api.Node) {}, nil},
		"neighbours":        {func(nodes []api.Node) { nodes[0].Out, nodes[2].Out = out[:3], out[2:] }, []int{0, 2}},
		"vectors":           {func(nodes []api.Node) { nodes[1].V, nodes[2].V = v[:2], v[1:] }, []int{1, 2}},
		"a list's room":     {func(nodes []api.Node) { nodes[0].Out, nodes[2].Out = out[:1], out[3:] }, []int{0}},
		"a vector's room":   {func(nodes []api.Node) { nodes[1].V, nodes[2].V = v[2:], v[:2] }, []int{2}},
		"parts of one list": {func(nodes []api.Node) { nodes[0].Out, nodes[2].Out = out[:3:3], out[3:] }, nil},
	} {
		fresh := func() api.Graph {
			copy(out, []int{2, 1, 3, 0, 1, 2})
			copy(v, []int8{1, 2, 3, 4, 5, 6})
			g := samples.Linked(0, []int{1}, []int{0, 2}, nil)
			c.change(g.Nodes)
			return g
		}
		if shared := samples.SharedLists(fresh); !slices.Equal(shared, c.want) {
			t.Errorf("%s: %v", name, shared)
		}
	}
}

// A full graph may be, and not with one more of anything.
func TestFullGraph(t *testing.T) {
	g, s := samples.FullGraph(), samples.MostSetup()
	if !graph.Check(g, s) || len(g.Nodes) != api.MaxItems || g.Nodes[0].ID != api.MaxNumber {
		t.Errorf("%v", samples.TellGraph(g))
	}
	for _, node := range g.Nodes {
		if len(node.Out) != api.MaxDegree || len(node.V) != api.MaxDim {
			t.Fatalf("%v", node)
		}
	}
}

func TestFaults(t *testing.T) {
	for _, degree := range []int{1, 5, api.MaxDegree} {
		g, s := samples.Web(1, degree+2, 2, degree), samples.WideSetup(2)
		s.Degree = degree
		if !graph.Check(g, s) {
			t.Fatalf("%v", g)
		}
		names := map[string]int{}
		for _, fault := range samples.Faults(g, degree) {
			if graph.Check(fault.Graph, s) {
				t.Errorf("%s: %v", fault.Name, samples.TellGraph(fault.Graph))
			}
			names[fault.Name]++
		}
		if len(names) != 14 || !samples.SameGraph(g, samples.Web(1, degree+2, 2, degree)) {
			t.Errorf("%d faults of %v", len(names), g)
		}
	}
}

// Some of them may be, and some may not.
func TestBentGraph(t *testing.T) {
	may := 0
	for seed := range uint64(200) {
		draw := samples.Drawer(seed)
		bytes := func() uint64 { return draw() % 256 }
		g := samples.BentGraph(bytes)
		for dim := 1; dim <= 3; dim++ {
			if graph.Check(g, samples.WideSetup(dim)) && len(g.Nodes) > 0 {
				may++
			}
		}
	}
	if may < 50 || may > 180 {
		t.Errorf("%d of 200 may be", may)
	}
}

func TestTellGraph(t *testing.T) {
	for _, count := range []int{0, 1, 20, 21, 500} {
		g := samples.Web(1, count, 1, 2)
		told := samples.TellGraph(g)
		if len(told.Nodes) != min(count, 20) || len(g.Nodes) != count || told.Start != g.Start {
			t.Errorf("%d nodes of %d", len(told.Nodes), count)
		}
	}
}
