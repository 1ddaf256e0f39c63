package samples

import (
	"slices"

	"lodestone/api"
)

// Mend mends a graph that may be, in place, as the document's words say it, one by one. It tells how often there was room, and how often not.
func Mend(g api.Graph, s api.Setup) (room, noRoom int) {
	for lost := range g.Nodes {
		order, ways := walk(g)
		if slices.Contains(order, lost) {
			continue
		}
		at := nearest(g, lost, roomy(g, s, order))
		if at != -1 {
			room++
		} else {
			noRoom++
			at = nearest(g, lost, loose(g, order, ways))
			goes := farthestLoose(g, at, ways)
			g.Nodes[at].Out = slices.Delete(g.Nodes[at].Out, goes, goes+1)
		}
		g.Nodes[at].Out = append(g.Nodes[at].Out, lost)
	}
	return room, noRoom
}

// way is a neighbour: whose it is, and which one.
type way struct{ at, nth int }

// walk tells the places that are reached, in the order in which they are come to, and the ways.
func walk(g api.Graph) ([]int, []way) {
	if len(g.Nodes) == 0 {
		return nil, nil
	}
	order, ways := []int{g.Start}, []way{}
	for i := 0; i < len(order); i++ {
		for nth, next := range g.Nodes[order[i]].Out {
			if !slices.Contains(order, next) {
				order, ways = append(order, next), append(ways, way{order[i], nth})
			}
		}
	}
	return order, ways
}

// roomy are those of the places whose nodes have fewer neighbours than they may.
func roomy(g api.Graph, s api.Setup, places []int) []int {
	var roomy []int
	for _, place := range places {
		if len(g.Nodes[place].Out) < s.Degree {
			roomy = append(roomy, place)
		}
	}
	return roomy
}

// loose are those of the places whose nodes have a neighbour that is no way.
func loose(g api.Graph, places []int, ways []way) []int {
	var loose []int
	for _, place := range places {
		if farthestLoose(g, place, ways) != -1 {
			loose = append(loose, place)
		}
	}
	return loose
}

// farthestLoose tells which neighbour of the node at a place is the farthest of those that are no ways; -1: there is none.
func farthestLoose(g api.Graph, at int, ways []way) int {
	found := -1
	out := g.Nodes[at].Out
	for nth, next := range out {
		if !slices.Contains(ways, way{at, nth}) && (found == -1 || nearer(g, at, out[found], next)) {
			found = nth
		}
	}
	return found
}

// nearest is the nearest to the node at a place of some others, each held against all; -1: there is none.
func nearest(g api.Graph, at int, others []int) int {
	for _, place := range others {
		if !slices.ContainsFunc(others, func(other int) bool { return nearer(g, at, other, place) }) {
			return place
		}
	}
	return -1
}

// nearer says whether the node at a is a nearer hit than the one at b, to the node at a place.
func nearer(g api.Graph, at, a, b int) bool {
	far := func(place int) int64 {
		sum := int64(0)
		for i, n := range g.Nodes[place].V {
			between := int64(n) - int64(g.Nodes[at].V[i])
			sum += between * between
		}
		return sum
	}
	return far(a) < far(b) || far(a) == far(b) && g.Nodes[a].ID < g.Nodes[b].ID
}
