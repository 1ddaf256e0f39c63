// Package mending gives the nodes of a graph other neighbours, for the layers that change graphs, build and repair: it leads to what is not reached. The graphs that it is handed may be, for their setup; so none of the calls below refuses them.
package mending

import (
	"iter"
	"slices"

	"lodestone/api"
	"lodestone/graph"
	"lodestone/search"
)

// none stands where there is no place.
const none = -1

// Mend leads to what is not reached, step by step, until all nodes are reached. The neighbours that the graph has are changed: their lists are not to be another one's.
func Mend(g api.Graph, s api.Setup) {
	broken := mended{Graph: g, setup: s}
	for lost, reached := range broken.breaks() {
		broken.leadTo(lost, reached)
	}
}

// mended is a graph that is being mended, in place.
type mended struct {
	api.Graph
	setup api.Setup
}

// breaks tells one by one the first node that is not reached, and those that are, of the graph as it is then.
func (g *mended) breaks() iter.Seq2[int, []int] {
	return func(yield func(int, []int) bool) {
		for {
			reached, _ := graph.Reached(g.Graph)
			lost := firstBeside(reached)
			if lost == len(g.Nodes) || !yield(lost, reached) {
				return
			}
		}
	}
}

// firstBeside is the least number from 0 on that does not stand in a rising list.
func firstBeside(rising []int) int {
	for i, n := range rising {
		if n != i {
			return i
		}
	}
	return len(rising)
}

// leadTo makes a lost node the last neighbour of one that is reached: where there is room for it, or else where room can be made.
func (g *mended) leadTo(lost int, reached []int) {
	hasRoom := func(place int) bool { return len(g.Nodes[place].Out) < g.setup.Degree }
	place := g.nearest(lost, reached, hasRoom)
	if place == none {
		place = g.makeRoom(lost, reached)
	}
	g.Nodes[place].Out = append(g.Nodes[place].Out, lost)
}

// makeRoom takes a neighbour that is no way from the nearest node that has one, and tells where that node is.
func (g *mended) makeRoom(lost int, reached []int) int {
	from := g.comeFrom()
	noWays := func(place int) []int {
		return slices.DeleteFunc(slices.Clone(g.Nodes[place].Out), func(next int) bool { return from[next] == place })
	}
	place := g.nearest(lost, reached, func(place int) bool { return len(noWays(place)) > 0 })
	goes := g.farthest(place, noWays(place))
	g.Nodes[place].Out = slices.DeleteFunc(g.Nodes[place].Out, func(next int) bool { return next == goes })
	return place
}

// comeFrom tells of each node whose neighbour it is that is the way to it: none, if no way is needed (it is at Start), or it is not reached.
func (g *mended) comeFrom() []int {
	from := slices.Repeat([]int{none}, len(g.Nodes))
	for place, next := range g.ways() {
		from[next] = place
	}
	return from
}

// ways goes through the nodes from Start, in the order in which they are come to, and tells the ways one by one: the place of a node, and the one that is first come to from there.
func (g *mended) ways() iter.Seq2[int, int] {
	return func(yield func(int, int) bool) {
		came := make([]bool, len(g.Nodes))
		came[g.Start] = true
		order := []int{g.Start}
		for i := 0; i < len(order); i++ {
			for _, next := range g.Nodes[order[i]].Out {
				if came[next] {
					continue
				}
				came[next] = true
				order = append(order, next)
				if !yield(order[i], next) {
					return
				}
			}
		}
	}
}

// nearest is, of those places of which may says so, the one that is nearest to the node at another one; none, if it says so of none.
func (g *mended) nearest(at int, places []int, may func(int) bool) int {
	var asked []int
	for _, place := range places {
		if may(place) {
			asked = append(asked, place)
		}
	}
	hits, _ := search.Exact(part(g.Graph, asked), g.Nodes[at].V, 1)
	if len(hits) == 0 {
		return none
	}
	return g.at(hits[0])
}

// farthest is, of some neighbours, the one that is farthest from the node at a place.
func (g *mended) farthest(at int, next []int) int {
	hits, _ := search.Exact(part(g.Graph, next), g.Nodes[at].V, len(next))
	return g.at(hits[len(hits)-1])
}

// at is the place of a node that was hit.
func (g *mended) at(hit api.Hit) int { return graph.Find(g.Graph, hit.ID) }
