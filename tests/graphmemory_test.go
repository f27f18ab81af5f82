package tests

import (
	"math"
	"strconv"
	"testing"

	"loop.example/g00407/impl"
)

// graphCase is what the functions of the chapter are given.
type graphCase struct {
	G    impl.Graph
	Some []int
	A    int
	B    int
}

// looseGraphCase copies c with marked room behind its lists: what would fit there, and what would not.
func looseGraphCase(c graphCase, fits bool) graphCase {
	edge, vert := impl.Edge{From: -1, To: 99}, -1
	if fits && c.G.N > 0 {
		edge, vert = impl.Edge{From: c.G.N - 1, To: c.G.N - 1}, c.G.N-1
	}
	c.G.Edges, c.Some = roomyOf(c.G.Edges, edge), roomyOf(c.Some, vert)
	return c
}

// graphAnswers are all that the functions of the chapter say of these.
func graphAnswers(c graphCase) map[string][]any {
	out := map[string][]any{}
	order, ok := impl.Order(c.G)
	out["Order"] = []any{order, ok}
	turned, ok := impl.Turned(c.G)
	out["Turned"] = []any{turned, ok}
	bare, ok := impl.Bare(c.G)
	out["Bare"] = []any{bare, ok}
	part, ok := impl.Part(c.G, c.Some)
	out["Part"] = []any{part, ok}
	out["GraphOk"] = []any{impl.GraphOk(c.G)}
	out["Ring"] = []any{impl.Ring(c.G)}
	out["Reach"] = []any{impl.Reach(c.G, c.Some)}
	out["Layer"] = []any{impl.Layer(c.G, c.A)}
	out["Leads"] = []any{impl.Leads(c.G, c.A, c.B)}
	return out
}

// eachGraphCase calls with cases of which all, some or none may be.
func eachGraphCase(call func(c graphCase)) {
	d := draw(41)
	graphs := drawnGraphs(300)
	for _, g := range goodGraphs() {
		graphs = append(graphs, g)
	}
	for _, g := range badGraphs() {
		graphs = append(graphs, g)
	}
	for i, g := range graphs {
		n := min(max(g.N, 1), 30)
		call(graphCase{g, d.someVerts(impl.Graph{N: n}), d.upTo(n), d.upTo(n)})
		switch i % 4 {
		case 0:
			call(graphCase{g, []int{math.MinInt, 0, math.MaxInt}, math.MinInt, math.MaxInt})
		case 1:
			call(graphCase{g, make([]int, 21), -1, 0})
		case 2:
			call(graphCase{g, make([]int, 20), 0, n})
		case 3:
			call(graphCase{g, []int{n}, math.MaxInt, math.MinInt})
		}
	}
}

func TestGraphConventions(t *testing.T) {
	eachGraphCase(func(c graphCase) {
		what := " of " + graphText(c.G) + ", " + numsText(c.Some) + ", " + strconv.Itoa(c.A) + ", " + strconv.Itoa(c.B)
		plainly := graphAnswers(c)
		for _, fits := range []bool{true, false} {
			wideCase := looseGraphCase(c, fits)
			var answers map[string][]any
			stays(t, what, wideCase, func() { answers = graphAnswers(wideCase) })
			for name, answer := range answers {
				newMemory(t, name+what, answer, []any{wideCase})
				for i := range answer {
					if !alike(answer[i], plainly[name][i]) {
						t.Errorf("%s%s: the room behind a list plays a part", name, what)
					}
				}
			}
		}
	})
}

// TestBesideAFalseOfGraphs: beside a false is the zero value.
func TestBesideAFalseOfGraphs(t *testing.T) {
	refused := map[string]int{}
	eachGraphCase(func(c graphCase) {
		for name, answer := range graphAnswers(c) {
			if len(answer) < 2 || answer[1] == true {
				continue
			}
			refused[name]++
			if !alike(answer[0], impl.Graph{}) && !alike(answer[0], []int(nil)) {
				t.Error(name, graphText(c.G), answer)
			}
		}
	})
	for _, name := range []string{"Order", "Turned", "Bare", "Part"} {
		if refused[name] < 60 {
			t.Error(name, refused[name], "the cases tell nothing")
		}
	}
}

// TestGraphsHangOnNothingElse asks for the same again and again, with others between, and writes into each answer.
func TestGraphsHangOnNothingElse(t *testing.T) {
	mine := graphCase{graphOf(6, "0>1 0>2 1>2 3>2 5>0 5>3"), numsOf("1 3"), 2, 5}
	want := graphAnswers(mine)
	eachGraphCase(func(other graphCase) {
		graphAnswers(other)
		for name, answer := range graphAnswers(mine) {
			for i := range answer {
				if !alike(answer[i], want[name][i]) {
					t.Fatal(name, answer)
				}
			}
			switch x := answer[0].(type) {
			case impl.Graph:
				for i := range x.Edges {
					x.Edges[i] = impl.Edge{From: 9, To: 9}
				}
			case []int:
				for i := range x {
					x[i] = 9
				}
			}
		}
	})
}

// TestGraphsOfEmptyLists: an empty list and nil are the same.
func TestGraphsOfEmptyLists(t *testing.T) {
	for n := -1; n <= 21; n++ {
		without := graphAnswers(graphCase{G: impl.Graph{N: n}, A: n - 1, B: 0})
		empty := graphAnswers(graphCase{G: impl.Graph{N: n, Edges: []impl.Edge{}}, Some: []int{}, A: n - 1, B: 0})
		for name, answer := range without {
			for i := range answer {
				if !alike(answer[i], empty[name][i]) {
					t.Error(n, name, answer, empty[name])
				}
			}
		}
	}
}
