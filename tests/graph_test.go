package tests

import (
	"math"
	"strconv"
	"strings"
	"testing"

	"loop.example/g00407/impl"
)

// edgesOf reads edges as the tests write them: `0>3 2>1`.
func edgesOf(text string) []impl.Edge {
	var out []impl.Edge
	for _, word := range strings.Fields(text) {
		from, to, _ := strings.Cut(word, ">")
		out = append(out, impl.Edge{From: numsOf(from)[0], To: numsOf(to)[0]})
	}
	return out
}

// numsOf reads numbers, with blanks between.
func numsOf(text string) []int {
	var out []int
	for _, word := range strings.Fields(text) {
		n, err := strconv.Atoi(word)
		if err != nil {
			panic(err)
		}
		out = append(out, n)
	}
	return out
}

func graphOf(n int, edges string) impl.Graph { return impl.Graph{N: n, Edges: edgesOf(edges)} }

func edgesText(l []impl.Edge) string {
	var out []string
	for _, e := range l {
		out = append(out, strconv.Itoa(e.From)+">"+strconv.Itoa(e.To))
	}
	return strings.Join(out, " ")
}

func numsText(l []int) string {
	var out []string
	for _, n := range l {
		out = append(out, strconv.Itoa(n))
	}
	return strings.Join(out, " ")
}

func graphText(g impl.Graph) string { return strconv.Itoa(g.N) + ": " + edgesText(g.Edges) }

// fullGraph has all edges that n can have.
func fullGraph(n int) impl.Graph {
	out := impl.Graph{N: n}
	for from := range n {
		for to := range n {
			out.Edges = append(out.Edges, impl.Edge{From: from, To: to})
		}
	}
	return out
}

// steepGraph has all edges from a greater one to a less one.
func steepGraph(n int) impl.Graph {
	out := impl.Graph{N: n}
	for _, e := range fullGraph(n).Edges {
		if e.From > e.To {
			out.Edges = append(out.Edges, e)
		}
	}
	return out
}

// lineGraph goes from one to the next, and round in a ring if it is to.
func lineGraph(n int, round bool) impl.Graph {
	out := impl.Graph{N: n}
	for v := range n - 1 {
		out.Edges = append(out.Edges, impl.Edge{From: v, To: v + 1})
	}
	if round {
		out.Edges = append(out.Edges, impl.Edge{From: n - 1})
	}
	return out
}

// goodGraphs may be.
func goodGraphs() map[string]impl.Graph {
	empty := impl.Graph{Edges: []impl.Edge{}}
	return map[string]impl.Graph{
		"none": {}, "none, with an empty list": empty, "one": {N: 1}, "several": {N: 5}, "MaxVerts": {N: impl.MaxVerts},
		"from one to itself": graphOf(1, "0>0"), "from all to themselves": graphOf(3, "0>0 1>1 2>2"), "from the last one to itself": graphOf(4, "3>3"),
		"an edge": graphOf(2, "0>1"), "an edge back": graphOf(2, "1>0"), "to and fro": graphOf(2, "0>1 1>0"), "the ends of all": graphOf(20, "0>19 19>0"), "the last of MaxVerts": graphOf(20, "19>19"),
		"ascending by To": graphOf(4, "1>0 1>1 1>2 1>3"), "ascending by From": graphOf(4, "0>3 1>2 2>1 3>0"), "by From first": graphOf(4, "0>1 0>3 1>0 1>2 3>0"),
		"all edges of two": fullGraph(2), "MaxEdges": fullGraph(impl.MaxVerts), "one fewer": {N: 20, Edges: fullGraph(20).Edges[1:]}, "steep": steepGraph(20), "a line": lineGraph(20, false), "a ring of all": lineGraph(20, true),
	}
}

// badGraphs may not be, each for one reason alone.
func badGraphs() map[string]impl.Graph {
	all := fullGraph(impl.MaxVerts).Edges
	beyond := fullGraph(impl.MaxVerts + 1)
	return map[string]impl.Graph{
		"one below none": {N: -1}, "far below": {N: math.MinInt}, "MaxVerts and one": {N: impl.MaxVerts + 1}, "far above": {N: math.MaxInt},
		"below none, with edges": graphOf(-1, "0>1 1>2"), "MaxVerts and one, with edges": graphOf(21, "0>1 1>2"), "far above, with edges": graphOf(math.MaxInt, "0>1 1>2"), "MaxVerts and one, with a ring": graphOf(21, "0>1 1>0"),
		"an edge of none": graphOf(0, "0>0"), "edges of none": graphOf(0, "0>1 1>2"),
		"From of -1": graphOf(3, "-1>0 0>1 1>2"), "To of -1": graphOf(3, "0>-1 0>1 1>2"), "From of N": graphOf(3, "0>1 1>2 3>0"), "To of N": graphOf(3, "0>1 1>2 1>3"), "To of N in the midst": graphOf(3, "0>1 0>3 1>2"), "To of -1 at last": graphOf(3, "0>1 1>2 2>-1"),
		"From far below": {N: 3, Edges: []impl.Edge{{From: math.MinInt, To: 1}, {From: 0, To: 1}}}, "To far above": {N: 3, Edges: []impl.Edge{{From: 0, To: 1}, {From: 1, To: math.MaxInt}}},
		"From far above": {N: 3, Edges: []impl.Edge{{From: 0, To: 1}, {From: math.MaxInt, To: 1}}}, "To far below": {N: 3, Edges: []impl.Edge{{From: 0, To: math.MinInt}, {From: 0, To: 1}}},
		"both of N": graphOf(3, "0>1 3>3"), "both of -1": graphOf(3, "-1>-1 0>1"), "an end of 32": graphOf(3, "0>1 1>32"), "an end of 64": graphOf(3, "0>1 64>0"),
		"two alike": graphOf(3, "0>1 0>1"), "two alike at last": graphOf(3, "0>1 1>2 1>2"), "two alike to themselves": graphOf(3, "1>1 1>1"), "two alike, apart": graphOf(3, "0>1 1>2 0>1"),
		"From descends": graphOf(3, "1>2 0>1"), "From descends, To ascends": graphOf(4, "2>1 0>3"), "From descends at last": graphOf(3, "0>1 2>0 1>2"), "To descends": graphOf(3, "0>2 0>1"), "To descends at last": graphOf(3, "0>1 1>2 1>0"), "to and fro, turned": graphOf(2, "1>0 0>1"),
		"MaxEdges and one": {N: 20, Edges: append(append([]impl.Edge(nil), all...), all[399])}, "MaxEdges and one, the first twice": {N: 20, Edges: append([]impl.Edge{all[0]}, all...)}, "MaxEdges and one that is none": {N: 20, Edges: append(append([]impl.Edge(nil), all...), impl.Edge{From: 20})},
		"more than both limits": beyond, "MaxEdges and one of more": {N: 21, Edges: beyond.Edges[:401]}, "MaxEdges of more": {N: 21, Edges: beyond.Edges[:400]}, "far more than MaxEdges": {N: 20, Edges: append(append([]impl.Edge(nil), all...), all...)},
	}
}

func TestGraphOk(t *testing.T) {
	for why, g := range goodGraphs() {
		if !impl.GraphOk(g) {
			t.Error(why)
		}
	}
	for why, g := range badGraphs() {
		if impl.GraphOk(g) {
			t.Error(why)
		}
	}
	for n := -2; n <= impl.MaxVerts+2; n++ {
		if got := impl.GraphOk(impl.Graph{N: n}); got != (0 <= n && n <= impl.MaxVerts) {
			t.Error(n, got)
		}
		for from := -2; from <= n+2; from++ {
			for to := -2; to <= n+2; to++ {
				want := n <= impl.MaxVerts && 0 <= from && from < n && 0 <= to && to < n
				if got := impl.GraphOk(impl.Graph{N: n, Edges: []impl.Edge{{From: from, To: to}}}); got != want {
					t.Error(n, from, to, got)
				}
			}
		}
	}
}

// TestBadGraphsAreRefused: each function gives what the chapter names for them.
func TestBadGraphsAreRefused(t *testing.T) {
	for why, g := range badGraphs() {
		if l, ok := impl.Order(g); ok || len(l) != 0 {
			t.Error(why, l)
		}
		if l := impl.Ring(g); len(l) != 0 {
			t.Error(why, l)
		}
		for _, name := range []string{"", "0", "1", "0 1", "2", "-1"} {
			if l := impl.Reach(g, numsOf(name)); len(l) != 0 {
				t.Error(why, name, l)
			}
			if x, ok := impl.Part(g, numsOf(name)); ok || !alike(x, impl.Graph{}) {
				t.Error(why, name, x)
			}
		}
		if x, ok := impl.Turned(g); ok || !alike(x, impl.Graph{}) {
			t.Error(why, x)
		}
		if x, ok := impl.Bare(g); ok || !alike(x, impl.Graph{}) {
			t.Error(why, x)
		}
		for a := -1; a <= 21; a++ {
			if got := impl.Layer(g, a); got != -1 {
				t.Error(why, a, got)
			}
			for b := -1; b <= 21; b++ {
				if impl.Leads(g, a, b) {
					t.Error(why, a, b)
				}
			}
		}
	}
}

// graphRow is a graph, what is asked of it, and what the answer is: a text, or `no` of what is refused.
type graphRow struct {
	n     int
	edges string
	asked string
	want  string
}

// tellsGraphs fails where what is said of a graph is not what stands in the table.
func tellsGraphs(t *testing.T, table []graphRow, says func(g impl.Graph, asked []int) string) {
	t.Helper()
	for _, row := range table {
		if got := says(graphOf(row.n, row.edges), numsOf(row.asked)); got != row.want {
			t.Errorf("%d: %s of %q: %q, wanted %q", row.n, row.edges, row.asked, got, row.want)
		}
	}
}

func orderText(g impl.Graph, _ []int) string {
	l, ok := impl.Order(g)
	if !ok {
		return "no" + numsText(l)
	}
	return numsText(l)
}

func TestOrder(t *testing.T) {
	tellsGraphs(t, []graphRow{
		{0, "", "", ""}, {1, "", "", "0"}, {2, "", "", "0 1"}, {5, "", "", "0 1 2 3 4"}, {20, "", "", "0 1 2 3 4 5 6 7 8 9 10 11 12 13 14 15 16 17 18 19"},
		{2, "0>1", "", "0 1"}, {2, "1>0", "", "1 0"}, {3, "0>1 1>2", "", "0 1 2"},
		// Against the numbers.
		{4, "1>0 2>1 3>2", "", "3 2 1 0"}, {5, "0>3 2>1 3>1 4>0", "", "2 4 0 3 1"}, {3, "2>0", "", "1 2 0"}, {3, "2>0 2>1", "", "2 0 1"}, {4, "3>0 3>1 3>2", "", "3 0 1 2"},
		// The least that can be told, not the one that could be told first.
		{5, "1>0", "", "1 0 2 3 4"}, {5, "4>0", "", "1 2 3 4 0"}, {5, "2>0 2>1", "", "2 0 1 3 4"}, {6, "1>0 5>2", "", "1 0 3 4 5 2"}, {6, "2>1 3>0", "", "2 1 3 0 4 5"}, {7, "3>0 3>6 4>1", "", "2 3 0 4 1 5 6"},
		// One by one: not a whole layer at once.
		{4, "0>2 2>1", "", "0 2 1 3"}, {6, "0>1 1>2 3>4 4>5", "", "0 1 2 3 4 5"}, {6, "0>3 1>4 3>2 4>5", "", "0 1 3 2 4 5"},
		// It waits for all from which an edge comes.
		{4, "1>0 2>0 3>0", "", "1 2 3 0"}, {4, "0>3 1>3 2>3", "", "0 1 2 3"}, {4, "1>0 3>0", "", "1 2 3 0"}, {5, "0>2 0>4 1>2 2>3 4>2", "", "0 1 4 2 3"},
		{3, "0>1 0>2 1>2", "", "0 1 2"}, {3, "1>0 2>0 2>1", "", "2 1 0"},
	}, orderText)
	if got := orderText(steepGraph(20), nil); got != "19 18 17 16 15 14 13 12 11 10 9 8 7 6 5 4 3 2 1 0" {
		t.Error(got)
	}
	if got := orderText(lineGraph(20, false), nil); got != "0 1 2 3 4 5 6 7 8 9 10 11 12 13 14 15 16 17 18 19" {
		t.Error(got)
	}
}

func TestNoOrderWithARing(t *testing.T) {
	tellsGraphs(t, []graphRow{
		{1, "0>0", "", "no"}, {2, "0>0", "", "no"}, {2, "1>1", "", "no"}, {2, "0>1 1>0", "", "no"}, {2, "0>1 1>1", "", "no"}, {3, "0>1 1>2 2>0", "", "no"}, {5, "0>1 1>2 2>3 3>4 4>0", "", "no"}, {20, "19>19", "", "no"},
		// Others ahead of it, behind it, and apart.
		{3, "0>1 1>2 2>1", "", "no"}, {3, "0>1 1>0 1>2", "", "no"}, {5, "0>1 1>2 2>3 3>2 3>4", "", "no"}, {4, "0>1 2>3 3>2", "", "no"}, {4, "0>0 1>2 2>3", "", "no"}, {6, "0>1 3>4 4>5 5>3", "", "no"},
		// Two rings, one within another.
		{4, "0>1 1>0 2>3 3>2", "", "no"}, {4, "0>1 1>0 1>2 2>3 3>0", "", "no"},
	}, orderText)
	for _, g := range []impl.Graph{lineGraph(20, true), fullGraph(20), fullGraph(1)} {
		if got := orderText(g, nil); got != "no" {
			t.Error(graphText(g), got)
		}
	}
}

func TestRing(t *testing.T) {
	says := func(g impl.Graph, _ []int) string { return numsText(impl.Ring(g)) }
	tellsGraphs(t, []graphRow{
		{0, "", "", ""}, {1, "", "", ""}, {5, "", "", ""}, {2, "0>1", "", ""}, {3, "0>1 0>2 1>2", "", ""}, {4, "1>0 2>1 3>2", "", ""},
		{1, "0>0", "", "0"}, {3, "1>1", "", "1"}, {3, "0>0 2>2", "", "0 2"}, {20, "19>19", "", "19"}, {2, "0>1 1>0", "", "0 1"}, {3, "0>2 1>0 2>1", "", "0 1 2"}, {5, "0>4 4>0", "", "0 4"},
		// Two apart, two that touch, one within another.
		{5, "0>1 1>0 3>4 4>3", "", "0 1 3 4"}, {4, "0>3 1>2 2>1 3>0", "", "0 1 2 3"}, {5, "0>1 1>0 1>2 2>1", "", "0 1 2"}, {5, "0>1 1>2 2>1 2>3 3>0", "", "0 1 2 3"}, {4, "0>1 1>1 1>2 2>0", "", "0 1 2"},
		// Those that only lead to a ring, or are led to by one, or both.
		{4, "0>1 1>2 2>1", "", "1 2"}, {4, "0>1 1>0 1>2 2>3", "", "0 1"}, {5, "0>1 1>2 2>1 2>3 3>4", "", "1 2"}, {5, "0>1 1>0 1>2 2>3 3>4 4>3", "", "0 1 3 4"}, {3, "0>1 1>1 1>2", "", "1"}, {2, "1>0 1>1", "", "1"}, {2, "0>0 0>1", "", "0"},
		{5, "0>4 1>0 2>1 3>2 4>3", "", "0 1 2 3 4"}, {5, "0>4 1>0 2>1 3>2", "", ""},
	}, says)
	for _, g := range []impl.Graph{lineGraph(20, true), fullGraph(20)} {
		if got := says(g, nil); got != "0 1 2 3 4 5 6 7 8 9 10 11 12 13 14 15 16 17 18 19" {
			t.Error(graphText(g), got)
		}
	}
	for _, g := range []impl.Graph{lineGraph(20, false), steepGraph(20)} {
		if got := says(g, nil); got != "" {
			t.Error(graphText(g), got)
		}
	}
}

func reachText(g impl.Graph, asked []int) string { return numsText(impl.Reach(g, asked)) }

func TestReach(t *testing.T) {
	line, rings := "0>1 1>2 2>3 3>4", "0>1 1>0 1>2 2>3 3>4 4>3"
	tellsGraphs(t, []graphRow{
		{0, "", "", ""}, {1, "", "0", "0"}, {5, "", "", ""}, {5, "", "3", "3"}, {5, "", "4 0 2", "0 2 4"}, {5, line, "", ""},
		{5, line, "0", "0 1 2 3 4"}, {5, line, "2", "2 3 4"}, {5, line, "4", "4"}, {5, line, "3 1", "1 2 3 4"}, {5, line, "4 3", "3 4"}, {5, "0>3 2>1 3>1 4>0", "3", "1 3"},
		{5, "1>0 2>1 3>2 4>3", "2", "0 1 2"}, {5, "1>0 2>1 3>2 4>3", "4", "0 1 2 3 4"}, {6, "0>2 1>2 2>3 4>5", "0 4", "0 2 3 4 5"}, {6, "0>2 1>2 2>3 4>5", "1", "1 2 3"},
		// One that is named twice.
		{5, line, "3 3", "3 4"}, {5, line, "3 1 3 1", "1 2 3 4"}, {3, "0>0", "0 0", "0"},
		// Through rings.
		{1, "0>0", "0", "0"}, {5, rings, "0", "0 1 2 3 4"}, {5, rings, "1", "0 1 2 3 4"}, {5, rings, "2", "2 3 4"}, {5, rings, "4", "3 4"}, {5, "0>0 0>1", "1", "1"},
		// One that is not there.
		{5, line, "-1", ""}, {5, line, "5", ""}, {5, line, "0 5", ""}, {5, line, "5 0", ""}, {5, line, "0 -1 2", ""}, {0, "", "0", ""}, {1, "", "1", ""}, {20, "", "20", ""}, {20, "", "19", "19"}, {5, line, "64", ""}, {5, line, "9223372036854775807", ""}, {5, line, "-9223372036854775808", ""},
	}, reachText)
	all := "0 1 2 3 4 5 6 7 8 9 10 11 12 13 14 15 16 17 18 19"
	for _, g := range []impl.Graph{lineGraph(20, true), fullGraph(20)} {
		for v := range 20 {
			if got := reachText(g, []int{v}); got != all {
				t.Error(v, got)
			}
		}
	}
	if got := reachText(steepGraph(20), []int{19}); got != all {
		t.Error(got)
	}
	if got := reachText(steepGraph(20), []int{3, 1}); got != "0 1 2 3" {
		t.Error(got)
	}
}

// TestReachFromMaxVerts: as many may be named, whether they are others or one of them again and again.
func TestReachFromMaxVerts(t *testing.T) {
	g := impl.Graph{N: 20, Edges: edgesOf("0>1 2>0")}
	again := make([]int, 20)
	if got := reachText(g, again); got != "0 1" {
		t.Error(got)
	}
	if got := reachText(g, append(again, 0)); got != "" {
		t.Error(got)
	}
	all := numsOf("19 18 17 16 15 14 13 12 11 10 9 8 7 6 5 4 3 2 1 0")
	if got := reachText(g, all); got != "0 1 2 3 4 5 6 7 8 9 10 11 12 13 14 15 16 17 18 19" {
		t.Error(got)
	}
	for _, more := range []int{0, 19, 20, -1} {
		if got := reachText(g, append(all[:20:20], more)); got != "" {
			t.Error(more, got)
		}
	}
	if got := reachText(graphOf(2, "0>1"), make([]int, 21)); got != "" {
		t.Error(got)
	}
	if got := reachText(g, make([]int, 1000)); got != "" {
		t.Error(got)
	}
}

func TestTurned(t *testing.T) {
	tellsGraphs(t, []graphRow{
		{0, "", "", "0: "}, {1, "", "", "1: "}, {20, "", "", "20: "}, {1, "0>0", "", "1: 0>0"}, {3, "0>0 2>2", "", "3: 0>0 2>2"}, {2, "0>1", "", "2: 1>0"}, {2, "1>0", "", "2: 0>1"}, {2, "0>1 1>0", "", "2: 0>1 1>0"},
		// What comes first then comes last, or between.
		{5, "0>3 2>1 3>1 4>0", "", "5: 0>4 1>2 1>3 3>0"}, {4, "0>3 1>2", "", "4: 2>1 3>0"}, {4, "0>1 0>2 0>3", "", "4: 1>0 2>0 3>0"}, {4, "1>0 2>0 3>0", "", "4: 0>1 0>2 0>3"}, {3, "0>2 1>1 2>0", "", "3: 0>2 1>1 2>0"}, {12, "0>11 2>10 10>2", "", "12: 2>10 10>2 11>0"},
	}, func(g impl.Graph, _ []int) string {
		x, ok := impl.Turned(g)
		if !ok {
			return "no"
		}
		again, ok := impl.Turned(x)
		if !ok || !alike(again, g) {
			return "not itself again"
		}
		return graphText(x)
	})
	if x, ok := impl.Turned(fullGraph(20)); !ok || !alike(x, fullGraph(20)) {
		t.Error(graphText(x))
	}
}

func TestLayer(t *testing.T) {
	line := "0>1 1>2 2>3 3>4"
	tellsGraphs(t, []graphRow{
		{1, "", "0", "0"}, {5, "", "4", "0"}, {5, line, "0", "0"}, {5, line, "1", "1"}, {5, line, "4", "4"}, {4, "1>0 2>1 3>2", "0", "3"}, {4, "1>0 2>1 3>2", "3", "0"},
		// The longest of several ways.
		{3, "0>1 0>2 1>2", "2", "2"}, {3, "0>1 0>2 1>2", "1", "1"}, {3, "1>0 2>0 2>1", "0", "2"}, {5, "0>3 2>1 3>1 4>0", "1", "3"}, {5, "0>3 2>1 3>1 4>0", "3", "2"}, {5, "0>4 1>2 2>3 3>4", "4", "3"}, {5, "0>4 1>4 2>4 3>4", "4", "1"}, {6, "0>1 1>5 2>3 3>4 4>5", "5", "3"}, {6, "0>1 2>3 3>4 4>5", "1", "1"},
		{5, "1>0 3>1 3>2 4>2", "0", "2"}, {5, "1>0 3>1 3>2 4>2", "2", "1"},
		// None such.
		{5, line, "-1", "-1"}, {5, line, "5", "-1"}, {0, "", "0", "-1"}, {0, "", "-1", "-1"}, {1, "", "1", "-1"}, {5, line, "9223372036854775807", "-1"}, {5, line, "-9223372036854775808", "-1"},
		// A ring anywhere: on the way, at v, behind v, apart from it.
		{1, "0>0", "0", "-1"}, {3, "0>1 1>0 1>2", "2", "-1"}, {3, "0>1 1>2 2>1", "1", "-1"}, {3, "0>1 1>2 2>1", "0", "-1"}, {4, "0>1 2>3 3>2", "1", "-1"}, {4, "0>1 3>3", "0", "-1"}, {4, "0>1 3>3", "2", "-1"},
	}, func(g impl.Graph, asked []int) string { return strconv.Itoa(impl.Layer(g, asked[0])) })
	for v := range 20 {
		if got := impl.Layer(lineGraph(20, false), v); got != v {
			t.Error(v, got)
		}
		if got := impl.Layer(steepGraph(20), v); got != 19-v {
			t.Error(v, got)
		}
		if got := impl.Layer(lineGraph(20, true), v); got != -1 {
			t.Error(v, got)
		}
	}
}

func TestLeads(t *testing.T) {
	line, rings := "0>1 1>2 2>3 3>4", "0>1 1>0 1>2 2>3 4>4"
	tellsGraphs(t, []graphRow{
		{5, "", "0 1", "false"}, {5, "", "0 0", "false"}, {5, line, "0 1", "true"}, {5, line, "0 4", "true"}, {5, line, "1 3", "true"}, {5, line, "1 0", "false"}, {5, line, "4 0", "false"}, {5, "1>0 2>1 3>2 4>3", "4 0", "true"}, {5, "1>0 2>1 3>2 4>3", "0 4", "false"},
		{6, "0>2 1>2 2>3 4>5", "0 3", "true"}, {6, "0>2 1>2 2>3 4>5", "0 1", "false"}, {6, "0>2 1>2 2>3 4>5", "0 5", "false"},
		// From one to itself.
		{5, line, "0 0", "false"}, {5, line, "2 2", "false"}, {5, line, "4 4", "false"}, {1, "0>0", "0 0", "true"}, {5, rings, "0 0", "true"}, {5, rings, "1 1", "true"}, {5, rings, "2 2", "false"}, {5, rings, "3 3", "false"}, {5, rings, "4 4", "true"},
		{5, rings, "0 3", "true"}, {5, rings, "3 0", "false"}, {5, rings, "4 0", "false"}, {5, rings, "0 4", "false"}, {5, rings, "1 0", "true"},
		// One that is not there.
		{5, line, "-1 0", "false"}, {5, line, "0 -1", "false"}, {5, line, "5 0", "false"}, {5, line, "0 5", "false"}, {5, line, "-1 -1", "false"}, {5, line, "5 5", "false"}, {0, "", "0 0", "false"}, {1, "0>0", "1 0", "false"}, {1, "0>0", "0 1", "false"}, {5, line, "32 1", "false"}, {5, line, "64 1", "false"},
		{5, line, "-9223372036854775808 9223372036854775807", "false"}, {5, line, "9223372036854775807 1", "false"}, {5, line, "0 -9223372036854775808", "false"},
	}, func(g impl.Graph, asked []int) string { return strconv.FormatBool(impl.Leads(g, asked[0], asked[1])) })
	for a := range 20 {
		for b := range 20 {
			if !impl.Leads(fullGraph(20), a, b) || !impl.Leads(lineGraph(20, true), a, b) || impl.Leads(lineGraph(20, false), a, b) != (a < b) || impl.Leads(steepGraph(20), a, b) != (a > b) {
				t.Error(a, b)
			}
		}
	}
}

func TestBare(t *testing.T) {
	says := func(g impl.Graph, _ []int) string {
		x, ok := impl.Bare(g)
		if !ok {
			return "no" + edgesText(x.Edges)
		}
		return graphText(x)
	}
	tellsGraphs(t, []graphRow{
		// Nothing to spare.
		{0, "", "", "0: "}, {1, "", "", "1: "}, {20, "", "", "20: "}, {2, "0>1", "", "2: 0>1"}, {2, "1>0", "", "2: 1>0"}, {4, "0>1 1>2 2>3", "", "4: 0>1 1>2 2>3"}, {4, "0>1 0>2 1>3 2>3", "", "4: 0>1 0>2 1>3 2>3"}, {4, "0>2 0>3 1>2 1>3", "", "4: 0>2 0>3 1>2 1>3"}, {4, "0>1 2>3", "", "4: 0>1 2>3"},
		// One, several.
		{3, "0>1 0>2 1>2", "", "3: 0>1 1>2"}, {3, "1>0 2>0 2>1", "", "3: 1>0 2>1"}, {4, "0>1 0>3 1>2 2>3", "", "4: 0>1 1>2 2>3"}, {5, "0>1 0>2 0>3 1>3 2>3 3>4", "", "5: 0>1 0>2 1>3 2>3 3>4"}, {5, "0>2 0>3 1>2 1>3 2>3 3>4", "", "5: 0>2 1>2 2>3 3>4"}, {5, "0>3 0>4 3>1 4>1 4>3", "", "5: 0>4 3>1 4>3"},
		{6, "0>1 0>2 1>2 3>4 3>5 4>5", "", "6: 0>1 1>2 3>4 4>5"},
		// The way goes by an edge that is itself spared.
		{4, "0>1 0>2 0>3 1>2 1>3 2>3", "", "4: 0>1 1>2 2>3"}, {4, "0>1 0>2 0>3 1>2 2>3", "", "4: 0>1 1>2 2>3"}, {4, "0>1 0>3 1>2 1>3 2>3", "", "4: 0>1 1>2 2>3"}, {5, "0>2 0>4 1>0 1>2 1>3 2>3 2>4 3>4", "", "5: 0>2 1>0 2>3 3>4"},
		// A ring anywhere.
		{1, "0>0", "", "no"}, {2, "0>1 1>0", "", "no"}, {3, "0>1 1>0 1>2", "", "no"}, {4, "0>1 0>2 1>2 3>3", "", "no"}, {3, "0>1 0>2 1>2 2>0", "", "no"},
	}, says)
	if got, want := says(steepGraph(20), nil), "20: 1>0 2>1 3>2 4>3 5>4 6>5 7>6 8>7 9>8 10>9 11>10 12>11 13>12 14>13 15>14 16>15 17>16 18>17 19>18"; got != want {
		t.Error(got)
	}
	if got := says(lineGraph(20, false), nil); got != graphText(lineGraph(20, false)) {
		t.Error(got)
	}
	for _, g := range []impl.Graph{lineGraph(20, true), fullGraph(20)} {
		if x, ok := impl.Bare(g); ok || !alike(x, impl.Graph{}) {
			t.Error(graphText(x))
		}
	}
}

func partText(g impl.Graph, asked []int) string {
	x, ok := impl.Part(g, asked)
	if !ok {
		return "no" + edgesText(x.Edges)
	}
	return graphText(x)
}

func TestPart(t *testing.T) {
	some := "0>1 0>2 1>2 2>0 3>3 3>4"
	tellsGraphs(t, []graphRow{
		{0, "", "", "0: "}, {5, "", "0 1 2", "5: "}, {5, some, "", "5: "}, {5, some, "0", "5: "}, {5, some, "3", "5: 3>3"}, {5, some, "0 1", "5: 0>1"}, {5, some, "0 2", "5: 0>2 2>0"}, {5, some, "2 1", "5: 1>2"}, {5, some, "2 0 1", "5: 0>1 0>2 1>2 2>0"}, {5, some, "0 3", "5: 3>3"}, {5, some, "1 4", "5: "}, {5, some, "4 3", "5: 3>3 3>4"}, {5, some, "0 1 2 3 4", "5: " + some}, {5, some, "4 3 2 1 0", "5: " + some},
		// One that is named twice.
		{5, some, "0 1 0", "5: 0>1"}, {5, some, "3 3", "5: 3>3"}, {5, some, "0 0", "5: "},
		// What is not there keeps nothing and is no reason.
		{5, some, "-1", "5: "}, {5, some, "5", "5: "}, {5, some, "-1 0 1", "5: 0>1"}, {5, some, "0 5 1", "5: 0>1"}, {5, some, "5 -1 0 1 2 3 4", "5: " + some}, {0, "", "0", "0: "}, {0, "", "-1 7", "0: "}, {5, some, "0 9223372036854775807 2 -9223372036854775808", "5: 0>2 2>0"}, {5, some, "32 33 64 65", "5: "}, {5, some, "-5 -4", "5: "},
	}, partText)
	if got := partText(fullGraph(20), numsOf("3 19")); got != "20: 3>3 3>19 19>3 19>19" {
		t.Error(got)
	}
}

// TestPartOfMaxVerts: as many may be in keep, whether they are there or not.
func TestPartOfMaxVerts(t *testing.T) {
	all := numsOf("0 1 2 3 4 5 6 7 8 9 10 11 12 13 14 15 16 17 18 19")
	if got := partText(fullGraph(20), all); got != graphText(fullGraph(20)) {
		t.Error(got)
	}
	g := graphOf(3, "0>1 1>2")
	if got := partText(g, all); got != "3: 0>1 1>2" {
		t.Error(got)
	}
	if got := partText(g, make([]int, 20)); got != "3: " {
		t.Error(got)
	}
	for _, more := range []int{0, 19, 20, -1} {
		if x, ok := impl.Part(g, append(all[:20:20], more)); ok || !alike(x, impl.Graph{}) {
			t.Error(more, graphText(x))
		}
	}
	for _, size := range []int{21, 1000} {
		if x, ok := impl.Part(g, make([]int, size)); ok || !alike(x, impl.Graph{}) {
			t.Error(size, graphText(x))
		}
	}
}
