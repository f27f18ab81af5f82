package tests

import (
	"slices"
	"testing"

	"loop.example/g00407/impl"
)

// The chapter once more, in another way: a graph is a table of which leads to which by one edge, and ways of so many edges are what the table, taken so many times, tells.

// grid tells of each two whether something leads from the first to the second.
type grid [][]bool

func emptyGrid(n int) grid {
	out := make(grid, n)
	for i := range out {
		out[i] = make([]bool, n)
	}
	return out
}

func gridOf(g impl.Graph) grid {
	out := emptyGrid(g.N)
	for _, e := range g.Edges {
		out[e.From][e.To] = true
	}
	return out
}

// times tells what leads by a and then by b.
func (a grid) times(b grid) grid {
	out := emptyGrid(len(a))
	for i := range a {
		for k, first := range a[i] {
			for j := range b {
				out[i][j] = out[i][j] || first && b[k][j]
			}
		}
	}
	return out
}

// comesTo tells whether something leads to v.
func (a grid) comesTo(v int) bool {
	return slices.ContainsFunc(a, func(row []bool) bool { return row[v] })
}

// waysByRule are the ways of one edge, of two, and so on up to as many as there are vertices, and what leads by one of them.
func waysByRule(g impl.Graph) ([]grid, grid) {
	one, any := gridOf(g), emptyGrid(g.N)
	var out []grid
	now := one
	for range g.N {
		out = append(out, now)
		for i := range any {
			for j := range any {
				any[i][j] = any[i][j] || now[i][j]
			}
		}
		now = now.times(one)
	}
	return out, any
}

// graphByRule: its edges are just those of all edges that may be, in their order, which it has.
func graphByRule(g impl.Graph) bool {
	if g.N < 0 || g.N > 20 || len(g.Edges) > 400 {
		return false
	}
	has := map[impl.Edge]bool{}
	for _, e := range g.Edges {
		has[e] = true
	}
	var inOrder []impl.Edge
	for _, e := range fullGraph(g.N).Edges {
		if has[e] {
			inOrder = append(inOrder, e)
		}
	}
	return slices.Equal(inOrder, g.Edges)
}

// orderByRule is the least of all orders that have each behind those from which an edge comes.
func orderByRule(g impl.Graph) ([]int, bool) {
	if g.N > 4 {
		return orderOneByOne(g)
	}
	for order := range orders(g.N) {
		if !slices.ContainsFunc(g.Edges, func(e impl.Edge) bool { return slices.Index(order, e.From) >= slices.Index(order, e.To) }) {
			return order, true
		}
	}
	return nil, false
}

// orderOneByOne is for those that have too many orders to try.
func orderOneByOne(g impl.Graph) ([]int, bool) {
	var order []int
	for range g.N {
		next := -1
		for v := g.N - 1; v >= 0; v-- {
			waits := slices.ContainsFunc(g.Edges, func(e impl.Edge) bool { return e.To == v && !slices.Contains(order, e.From) })
			if !slices.Contains(order, v) && !waits {
				next = v
			}
		}
		if next < 0 {
			return nil, false
		}
		order = append(order, next)
	}
	return order, true
}

// goesWithout tells whether a way leads from a to b that does not go by an edge.
func goesWithout(g impl.Graph, left impl.Edge, a int, b int) bool {
	seen, work := make([]bool, g.N), []int{a}
	for len(work) > 0 {
		at := work[0]
		work = work[1:]
		for _, e := range g.Edges {
			if e.From != at || e == left || seen[e.To] {
				continue
			}
			seen[e.To] = true
			work = append(work, e.To)
		}
	}
	return seen[b]
}

func bareByRule(g impl.Graph) impl.Graph {
	out := impl.Graph{N: g.N}
	for _, e := range g.Edges {
		if !goesWithout(g, e, e.From, e.To) {
			out.Edges = append(out.Edges, e)
		}
	}
	return out
}

// chosen is g with the edges that are wanted, asked of each that may be.
func chosen(n int, wanted func(e impl.Edge) bool) impl.Graph {
	return impl.Graph{N: n, Edges: slices.DeleteFunc(fullGraph(n).Edges, func(e impl.Edge) bool { return !wanted(e) })}
}

// ordersByRule fails where what hangs on an order is not as the rule says; it tells whether there is one.
func ordersByRule(t *testing.T, g impl.Graph, lengths []grid) bool {
	t.Helper()
	want, is := orderByRule(g)
	if got, ok := impl.Order(g); ok != is || !alike(got, want) {
		t.Fatalf("%s: Order is %v, wanted %v", graphText(g), got, want)
	}
	for v := range g.N {
		layer := -1
		for edges := 0; is && edges <= len(lengths); edges++ {
			if edges == 0 || lengths[edges-1].comesTo(v) {
				layer = edges
			}
		}
		if got := impl.Layer(g, v); got != layer {
			t.Fatalf("%s: Layer of %d is %d, wanted %d", graphText(g), v, got, layer)
		}
	}
	bare := impl.Graph{}
	if is {
		bare = bareByRule(g)
	}
	if got, ok := impl.Bare(g); ok != is || !alike(got, bare) {
		t.Fatalf("%s: Bare is %s, wanted %s", graphText(g), graphText(got), graphText(bare))
	}
	return is
}

// graphsByRule fails where one of the functions does not say of g what the rule says; it tells whether g has an order.
func graphsByRule(t *testing.T, g impl.Graph, some []int) bool {
	t.Helper()
	if !impl.GraphOk(g) {
		t.Fatalf("%s: not GraphOk", graphText(g))
	}
	lengths, any := waysByRule(g)
	var ring, reached []int
	for v := range g.N {
		if any[v][v] {
			ring = append(ring, v)
		}
		if slices.ContainsFunc(some, func(from int) bool { return from == v || any[from][v] }) {
			reached = append(reached, v)
		}
		for b := range g.N {
			if impl.Leads(g, v, b) != any[v][b] {
				t.Fatalf("%s: Leads from %d to %d", graphText(g), v, b)
			}
		}
	}
	if got := impl.Ring(g); !slices.Equal(got, ring) {
		t.Fatalf("%s: Ring is %v, wanted %v", graphText(g), got, ring)
	}
	if got := impl.Reach(g, some); !slices.Equal(got, reached) {
		t.Fatalf("%s: Reach of %v is %v, wanted %v", graphText(g), some, got, reached)
	}
	turned := chosen(g.N, func(e impl.Edge) bool { return lengths[0][e.To][e.From] })
	if got, ok := impl.Turned(g); !ok || !alike(got, turned) {
		t.Fatalf("%s: Turned is %s", graphText(g), graphText(got))
	}
	part := chosen(g.N, func(e impl.Edge) bool {
		return lengths[0][e.From][e.To] && slices.Contains(some, e.From) && slices.Contains(some, e.To)
	})
	if got, ok := impl.Part(g, some); !ok || !alike(got, part) {
		t.Fatalf("%s: Part of %v is %s", graphText(g), some, graphText(got))
	}
	return ordersByRule(t, g, lengths)
}

// allGraphs tells all graphs of n.
func allGraphs(n int) func(yield func(impl.Graph) bool) {
	return func(yield func(impl.Graph) bool) {
		all := fullGraph(n).Edges
		for bits := range 1 << len(all) {
			g := impl.Graph{N: n}
			for i, e := range all {
				if bits>>i&1 == 1 {
					g.Edges = append(g.Edges, e)
				}
			}
			if !yield(g) {
				return
			}
		}
	}
}

// someVerts draws a few of g's, perhaps one of them twice.
func (d *draw) someVerts(g impl.Graph) []int {
	var out []int
	if g.N == 0 {
		return out
	}
	for range d.upTo(min(g.N, 5) + 1) {
		out = append(out, d.upTo(g.N))
	}
	return out
}

// graph draws one that may be: with rings, perhaps, or with edges that all go one way along an order that is drawn.
func (d *draw) graph() impl.Graph {
	n, seldom, order := d.upTo(impl.MaxVerts+1), 1+d.upTo(12), []int{}
	for v := range n {
		order = append(order, v)
	}
	d.shuffle(n, func(i, j int) { order[i], order[j] = order[j], order[i] })
	oneWay := d.upTo(3) > 0
	return chosen(n, func(e impl.Edge) bool {
		return d.upTo(seldom) == 0 && !(oneWay && order[e.From] >= order[e.To])
	})
}

// drawnGraphs are so many graphs that may be.
func drawnGraphs(n int) []impl.Graph {
	d := draw(n + 9)
	var out []impl.Graph
	for range n {
		out = append(out, d.graph())
	}
	return out
}

// TestAllSmallGraphsByRule: all that there are of up to 4.
func TestAllSmallGraphsByRule(t *testing.T) {
	for n, want := range []int{1, 1, 3, 25, 543} {
		d, ordered := draw(n), 0
		for g := range allGraphs(n) {
			if graphsByRule(t, g, d.someVerts(g)) {
				ordered++
			}
		}
		// So many graphs have no ring, as is known.
		if ordered != want {
			t.Errorf("of %d: %d have an order, wanted %d", n, ordered, want)
		}
	}
}

func TestDrawnGraphsByRule(t *testing.T) {
	d, ordered := draw(3), 0
	for _, g := range drawnGraphs(1500) {
		if graphsByRule(t, g, d.someVerts(g)) {
			ordered++
		}
	}
	if ordered < 500 || ordered > 1400 {
		t.Error(ordered, "the draws tell nothing")
	}
	for why, g := range goodGraphs() {
		graphsByRule(t, g, d.someVerts(g))
		if !graphByRule(g) {
			t.Error(why)
		}
	}
}

// TestGraphOkByRule: edges that are changed, left away, put in again or put elsewhere.
func TestGraphOkByRule(t *testing.T) {
	d, may := draw(17), 0
	for i, g := range drawnGraphs(6000) {
		size := len(g.Edges)
		switch i % 6 {
		case 0:
			g.N += d.upTo(5) - 2
		case 1:
			g.Edges = append(g.Edges, impl.Edge{From: d.upTo(g.N+2) - 1, To: d.upTo(g.N+2) - 1})
		case 2, 3:
			if size > 0 {
				e := &g.Edges[d.upTo(size)]
				e.From, e.To = e.From+d.upTo(3)-1, e.To+d.upTo(3)-1
			}
		case 4:
			if size > 1 {
				at := d.upTo(size - 1)
				g.Edges[at], g.Edges[at+1] = g.Edges[at+1], g.Edges[at]
			}
		case 5:
			if size > 0 {
				at := d.upTo(size)
				g.Edges = slices.Insert(g.Edges, d.upTo(size+1), g.Edges[at])
			}
		}
		want := graphByRule(g)
		if want {
			may++
		}
		if got := impl.GraphOk(g); got != want {
			t.Fatal(i, graphText(g), got)
		}
	}
	if may < 1000 || may > 4000 {
		t.Error(may, "the draws tell nothing")
	}
	for why, g := range badGraphs() {
		if g.N < 100 && graphByRule(g) {
			t.Error(why)
		}
	}
}
