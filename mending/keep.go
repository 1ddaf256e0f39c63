package mending

import (
	"slices"

	"lodestone/api"
	"lodestone/prune"
)

// Keep tells what prune.Keep does of the whole graph: which of the places the node at another one keeps as neighbours. The answer is a new list.
func Keep(g api.Graph, s api.Setup, at int, places []int) []int {
	// A place that stood there twice would be two nodes with one ID.
	asked := slices.Clone(places)
	asked = append(asked, at)
	slices.Sort(asked)
	asked = slices.Compact(asked)
	own := 0
	var all []int
	for i, place := range asked {
		if place == at {
			own = i
		}
		all = append(all, i)
	}
	kept, _ := prune.Keep(part(g, asked), s, own, all)
	for i, nth := range kept {
		kept[i] = asked[nth]
	}
	return kept
}

// part is a graph of the nodes at the places alone, without neighbours. The layers below go through the whole graph that they are given, each time: a small one is asked sooner, where an answer hangs on these nodes alone.
func part(g api.Graph, places []int) api.Graph {
	part := api.Graph{}
	for _, place := range places {
		part.Nodes = append(part.Nodes, api.Node{ID: g.Nodes[place].ID, V: g.Nodes[place].V})
	}
	return part
}
