package tests

import (
	"slices"
	"testing"

	"loop.example/g00407/impl"
)

// promisedGraphs are all of up to 3, many that are drawn, and the greatest.
func promisedGraphs() []impl.Graph {
	out := drawnGraphs(1500)
	for n := range 4 {
		for g := range allGraphs(n) {
			out = append(out, g)
		}
	}
	for _, g := range goodGraphs() {
		out = append(out, g)
	}
	return out
}

// TestEachIsBehindAllFromWhichAnEdgeComes: and all are there, and none twice.
func TestEachIsBehindAllFromWhichAnEdgeComes(t *testing.T) {
	behind := 0
	for _, g := range promisedGraphs() {
		order, ok := impl.Order(g)
		if !ok {
			continue
		}
		places := map[int]int{}
		for at, v := range order {
			if v < 0 || v >= g.N {
				t.Fatal(graphText(g), order)
			}
			places[v] = at
		}
		if len(order) != g.N || len(places) != g.N {
			t.Fatal(graphText(g), order)
		}
		for _, e := range g.Edges {
			behind++
			if places[e.From] >= places[e.To] {
				t.Fatal(graphText(g), order)
			}
		}
	}
	if behind < 10000 {
		t.Error(behind, "the draws tell nothing")
	}
}

// TestTheLeastIsNext: each one that could have been told earlier is greater than those that were.
func TestTheLeastIsNext(t *testing.T) {
	for _, g := range promisedGraphs() {
		order, _ := impl.Order(g)
		for at, v := range order {
			for _, later := range order[at+1:] {
				waits := slices.ContainsFunc(g.Edges, func(e impl.Edge) bool { return e.To == later && slices.Contains(order[at:], e.From) })
				if later < v && !waits {
					t.Fatalf("%s: %v has %d ahead of %d", graphText(g), order, v, later)
				}
			}
		}
	}
}

// TestAnOrderJustIfThereIsNoRing: Ring, Leads and Reach tell of the same rings.
func TestAnOrderJustIfThereIsNoRing(t *testing.T) {
	rings := 0
	for _, g := range promisedGraphs() {
		order, ok := impl.Order(g)
		ring := impl.Ring(g)
		if ok != (len(ring) == 0) || !ok && len(order) != 0 {
			t.Fatal(graphText(g), order, ring)
		}
		if len(ring) > 0 {
			rings++
		}
		for v := range g.N {
			if impl.Leads(g, v, v) != slices.Contains(ring, v) {
				t.Fatal(graphText(g), v, ring)
			}
		}
		// From each one of a ring an edge goes to one of a ring from which a way leads back to it.
		for _, v := range ring {
			if !slices.ContainsFunc(g.Edges, func(e impl.Edge) bool {
				return e.From == v && slices.Contains(ring, e.To) && slices.Contains(impl.Reach(g, []int{e.To}), v)
			}) {
				t.Fatal(graphText(g), v, ring)
			}
		}
		// Between those that are on no ring there is none.
		var others []int
		for v := range g.N {
			if !slices.Contains(ring, v) {
				others = append(others, v)
			}
		}
		part, fine := impl.Part(g, others)
		if _, ok := impl.Order(part); !fine || !ok {
			t.Fatal(graphText(g), graphText(part))
		}
	}
	if rings < 200 {
		t.Error(rings, "the draws tell nothing")
	}
}

// TestOneEdgeMakesARing: whatever graph has an order has none any more with an edge back from where one leads, and all that are on the ring are told.
func TestOneEdgeMakesARing(t *testing.T) {
	made := 0
	for _, g := range promisedGraphs() {
		if _, ok := impl.Order(g); !ok {
			continue
		}
		for i, e := range g.Edges {
			if i%7 > 0 {
				continue
			}
			back := impl.Edge{From: e.To, To: e.From}
			more := chosen(g.N, func(e impl.Edge) bool { return e == back || slices.Contains(g.Edges, e) })
			ring := impl.Ring(more)
			if _, ok := impl.Order(more); ok || !slices.Contains(ring, e.From) || !slices.Contains(ring, e.To) {
				t.Fatal(graphText(more), ring)
			}
			made++
		}
	}
	if made < 1000 {
		t.Error(made, "the draws tell nothing")
	}
}

// TestWhatCanBeComeToIsClosed: no edge leads out of it, and nothing is there without a way to it.
func TestWhatCanBeComeToIsClosed(t *testing.T) {
	d, added := draw(23), 0
	for _, g := range promisedGraphs() {
		from := d.someVerts(g)
		reached := impl.Reach(g, from)
		if !slices.IsSorted(reached) || len(slices.Compact(slices.Clone(reached))) != len(reached) {
			t.Fatal(graphText(g), from, reached)
		}
		for _, v := range from {
			if !slices.Contains(reached, v) {
				t.Fatal(graphText(g), from, reached)
			}
		}
		for _, e := range g.Edges {
			if slices.Contains(reached, e.From) && !slices.Contains(reached, e.To) {
				t.Fatal(graphText(g), from, reached)
			}
		}
		for _, v := range reached {
			if slices.Contains(from, v) {
				continue
			}
			added++
			if !slices.ContainsFunc(from, func(a int) bool { return impl.Leads(g, a, v) }) {
				t.Fatal(graphText(g), from, reached)
			}
		}
		if again := impl.Reach(g, reached); !slices.Equal(again, reached) {
			t.Fatal(graphText(g), reached, again)
		}
	}
	if added < 2000 {
		t.Error(added, "the draws tell nothing")
	}
}

// TestBareLeadsWhereItLed: and has none but g's edges, in their order.
func TestBareLeadsWhereItLed(t *testing.T) {
	spared := 0
	for _, g := range promisedGraphs() {
		bare, ok := impl.Bare(g)
		if _, is := impl.Order(g); ok != is {
			t.Fatal(graphText(g))
		}
		if !ok {
			continue
		}
		spared += len(g.Edges) - len(bare.Edges)
		if bare.N != g.N || !impl.GraphOk(bare) {
			t.Fatal(graphText(g), graphText(bare))
		}
		for _, e := range bare.Edges {
			if !slices.Contains(g.Edges, e) {
				t.Fatal(graphText(g), graphText(bare))
			}
		}
		for a := range g.N {
			for b := range g.N {
				if impl.Leads(g, a, b) != impl.Leads(bare, a, b) {
					t.Fatal(graphText(g), graphText(bare), a, b)
				}
			}
		}
	}
	if spared < 5000 {
		t.Error(spared, "the draws tell nothing")
	}
}

// TestNoEdgeOfBareCanBeSpared: without it no way leads there any more.
func TestNoEdgeOfBareCanBeSpared(t *testing.T) {
	kept := 0
	for _, g := range promisedGraphs() {
		bare, _ := impl.Bare(g)
		for i, e := range bare.Edges {
			kept++
			less := impl.Graph{N: bare.N, Edges: slices.Concat(bare.Edges[:i], bare.Edges[i+1:])}
			if !impl.Leads(bare, e.From, e.To) || impl.Leads(less, e.From, e.To) {
				t.Fatal(graphText(g), graphText(bare), e)
			}
		}
		if again, ok := impl.Bare(bare); !ok || !alike(again, bare) {
			t.Fatal(graphText(bare), graphText(again))
		}
	}
	if kept < 2000 {
		t.Error(kept, "the draws tell nothing")
	}
}

// TestLayersGoUp: along each edge, and by one from one of those from which an edge comes.
func TestLayersGoUp(t *testing.T) {
	for _, g := range promisedGraphs() {
		_, ok := impl.Order(g)
		greatest := make([]int, g.N)
		for _, e := range g.Edges {
			if !ok {
				break
			}
			greatest[e.To] = max(greatest[e.To], impl.Layer(g, e.From)+1)
		}
		for v, want := range greatest {
			if !ok {
				want = -1
			}
			if got := impl.Layer(g, v); got != want {
				t.Fatal(graphText(g), v, got, want)
			}
		}
	}
}

// TestTurnedLeadsBack: just where it led.
func TestTurnedLeadsBack(t *testing.T) {
	for _, g := range promisedGraphs() {
		back, ok := impl.Turned(g)
		if !ok || !impl.GraphOk(back) || back.N != g.N || len(back.Edges) != len(g.Edges) {
			t.Fatal(graphText(g), graphText(back))
		}
		for a := range g.N {
			for b := range g.N {
				if impl.Leads(g, a, b) != impl.Leads(back, b, a) {
					t.Fatal(graphText(g), a, b)
				}
			}
		}
		if again, ok := impl.Turned(back); !ok || !alike(again, g) {
			t.Fatal(graphText(g), graphText(again))
		}
		if !slices.Equal(impl.Ring(g), impl.Ring(back)) {
			t.Fatal(graphText(g))
		}
	}
}
