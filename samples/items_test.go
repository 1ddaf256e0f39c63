package samples_test

import (
	"testing"

	"lodestone/api"
	"lodestone/samples"
)

func TestItems(t *testing.T) {
	g := samples.Linked(1, []int{1}, []int{0})
	l := samples.Items(g)
	if !samples.SameItems(l, []api.Item{{ID: 100, V: []int8{0}}, {ID: 101, V: []int8{1}}}) {
		t.Errorf("%v", l)
	}
	samples.SpoilGraph(g)
	if l[0].V[0] != 0 || len(samples.Items(api.Graph{})) != 0 {
		t.Errorf("%v", l)
	}
}

func TestBare(t *testing.T) {
	want := samples.Linked(0, nil, nil)
	if g := samples.Bare(samples.Items(want)...); !samples.SameGraph(g, want) {
		t.Errorf("%v", g)
	}
	if g := samples.Bare(); len(g.Nodes) != 0 || g.Start != 0 {
		t.Errorf("%v", g)
	}
}

func TestSameItems(t *testing.T) {
	some := func() []api.Item { return samples.Items(samples.Linked(0, nil, nil)) }
	for name, change := range map[string]func(l []api.Item) []api.Item{
		"an ID":        func(l []api.Item) []api.Item { l[1].ID++; return l },
		"a number":     func(l []api.Item) []api.Item { l[1].V[0]++; return l },
		"the order":    func(l []api.Item) []api.Item { return []api.Item{l[1], l[0]} },
		"an item less": func(l []api.Item) []api.Item { return l[:1] },
	} {
		if !samples.SameItems(some(), some()) || samples.SameItems(change(some()), some()) {
			t.Errorf("%s is changed", name)
		}
	}
	if !samples.SameItems(nil, []api.Item{}) {
		t.Error("no items")
	}
}
