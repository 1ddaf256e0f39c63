package samples

import (
	"slices"

	"lodestone/api"
)

// Items are the nodes of a graph, as items.
func Items(g api.Graph) []api.Item {
	var l []api.Item
	for _, node := range g.Nodes {
		l = append(l, api.Item{ID: node.ID, V: slices.Clone(node.V)})
	}
	return l
}

// Bare makes a graph of the items, none of which has a neighbour.
func Bare(l ...api.Item) api.Graph {
	g := api.Graph{}
	for _, x := range l {
		g.Nodes = append(g.Nodes, api.Node{ID: x.ID, V: x.V})
	}
	return g
}

// SameItems says whether two lists have the same items, in order.
func SameItems(a, b []api.Item) bool {
	return slices.EqualFunc(a, b, func(a, b api.Item) bool { return a.ID == b.ID && slices.Equal(a.V, b.V) })
}
