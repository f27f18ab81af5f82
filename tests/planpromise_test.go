package tests

import (
	"bytes"
	"slices"
	"strings"
	"testing"

	"loop.example/g00407/impl"
)

// promisedPlans tells many plans with what they are made for: of configurations and states that are drawn.
func promisedPlans(n int) func(yield func(c planCase, p impl.Plan) bool) {
	return func(yield func(c planCase, p impl.Plan) bool) {
		for l, s := range drawnSchemes(n) {
			p, code, _ := impl.PlanOf(l, s)
			if code == impl.CfWell && !yield(planCase{L: l, S: s}, p) {
				return
			}
		}
	}
}

// restoredPlans tells many plans that make one state of another.
func restoredPlans(n int) func(yield func(c planCase, p impl.Plan) bool) {
	return func(yield func(c planCase, p impl.Plan) bool) {
		d := draw(n + 61)
		states := drawnStates(n)
		for l, s := range drawnSchemes(n / 4) {
			states = append(states, s, d.shaken(settled(l)))
		}
		for i, s := range states {
			for _, old := range []impl.State{states[(i+1)%len(states)], states[(i+5)%len(states)]} {
				p, ok := impl.RestoreOf(s, old)
				if ok && !yield(planCase{S: s, Old: old}, p) {
					return
				}
			}
		}
	}
}

// placeOf is the place of the act at an address; -1 if there is none.
func placeOf(p impl.Plan, addr []byte) int {
	return slices.IndexFunc(p.Acts, func(a impl.Act) bool { return bytes.Equal(a.Addr, addr) })
}

// TestEachActComesBehindWhatItNeeds: what is no act ahead of it is there, and stays.
func TestEachActComesBehindWhatItNeeds(t *testing.T) {
	acts, kept := 0, 0
	for c, p := range promisedPlans(400) {
		l, s := c.L, c.S
		for i, a := range p.Acts {
			if a.Act == impl.AcDelete {
				continue
			}
			if !alike(a.Deps, impl.InstNeeds(l, a.Addr)) {
				t.Fatalf("%s: %s", impl.ConfigText(l), actText(a))
			}
			for _, dep := range a.Deps {
				at := placeOf(p, dep)
				if at >= i || at >= 0 && p.Acts[at].Act == impl.AcDelete {
					t.Fatalf("%s: %s in %s", impl.ConfigText(l), actText(a), planText(p))
				}
				if at >= 0 {
					acts++
					continue
				}
				kept++
				if x, is := impl.EntryOf(s, dep); !is || x.Taint {
					t.Fatalf("%s: %s is neither there nor an act", impl.ConfigText(l), dep)
				}
			}
		}
	}
	if acts < 1000 || kept < 200 {
		t.Error(acts, kept, "the draws tell nothing")
	}
}

// TestWhatIsToGoIsLast: and is just what is no one.
func TestWhatIsToGoIsLast(t *testing.T) {
	gone := 0
	check := func(ones [][]byte, s impl.State, p impl.Plan) {
		began := false
		going := map[string]int{}
		for _, a := range p.Acts {
			if a.Act != impl.AcDelete && began {
				t.Fatal(planText(p))
			}
			if a.Act == impl.AcDelete {
				began = true
				going[string(a.Addr)]++
				gone++
			}
		}
		for _, x := range s.Entries {
			wanted := slices.ContainsFunc(ones, func(addr []byte) bool { return bytes.Equal(addr, x.Addr) })
			if wanted == (going[string(x.Addr)] == 1) {
				t.Fatalf("%s: %s", x.Addr, planText(p))
			}
			delete(going, string(x.Addr))
		}
		if len(going) > 0 {
			t.Fatal(going, planText(p))
		}
	}
	for c, p := range promisedPlans(300) {
		l, s := c.L, c.S
		insts, _, _ := impl.InstsOf(l)
		check(addrsOf(insts), s, p)
	}
	for c, p := range restoredPlans(300) {
		var ones [][]byte
		for _, x := range c.Old.Entries {
			ones = append(ones, x.Addr)
		}
		check(ones, c.S, p)
	}
	if gone < 1000 {
		t.Error(gone, "the draws tell nothing")
	}
}

// TestWhatGoesIsNeededByNoneBehindIt: where there is no ring among what goes.
func TestWhatGoesIsNeededByNoneBehindIt(t *testing.T) {
	ahead := 0
	for c, p := range restoredPlans(500) {
		s := c.S
		var going []impl.Entry
		for _, a := range p.Acts {
			if x, is := impl.EntryOf(s, a.Addr); is && a.Act == impl.AcDelete {
				going = append(going, x)
			}
		}
		g := impl.Graph{N: len(going)}
		for i, x := range going {
			for j, y := range going {
				if slices.Contains(strings.Fields(texts(x.Deps)), string(y.Addr)) {
					g.Edges = append(g.Edges, impl.Edge{From: i, To: j})
				}
			}
		}
		if len(impl.Ring(g)) > 0 {
			continue
		}
		for _, e := range g.Edges {
			ahead++
			if e.From > e.To {
				t.Fatalf("%s: %s", statesText(s), planText(p))
			}
		}
	}
	if ahead < 30 {
		t.Error(ahead, "the draws tell nothing")
	}
}

// TestAllOnesAreActsOrSame: each of them once.
func TestAllOnesAreActsOrSame(t *testing.T) {
	same := 0
	for c, p := range promisedPlans(400) {
		l, s := c.L, c.S
		insts, _, _ := impl.InstsOf(l)
		all, _, _ := impl.Wanted(l, s)
		left := map[string]impl.Entry{}
		for _, x := range all {
			left[string(x.Addr)] = x
		}
		if len(left) != len(insts) {
			t.Fatal(string(impl.ConfigText(l)), wantedText(l, s))
		}
		for _, a := range p.Acts {
			if a.Act == impl.AcDelete {
				continue
			}
			x, is := left[string(a.Addr)]
			v, _ := impl.ValDrop(x.Val, []byte("id"))
			if !is || !alike(v, a.Val) || !alike(x.Deps, a.Deps) || !bytes.Equal(l[a.Item].Name, impl.AddrName(a.Addr)) {
				t.Fatalf("%s: %s in %s", impl.ConfigText(l), actText(a), planText(p))
			}
			delete(left, string(a.Addr))
		}
		if len(left) != p.Same {
			t.Fatalf("%s: %d are no acts, %s", impl.ConfigText(l), len(left), planText(p))
		}
		// What is Same is just what is there.
		for addr, x := range left {
			is, there := impl.EntryOf(s, []byte(addr))
			if !there || is.Taint || !alike(is.Val, x.Val) {
				t.Fatalf("%s: %s does not stay", impl.ConfigText(l), addr)
			}
			same++
		}
	}
	if same < 1000 {
		t.Error(same, "the draws tell nothing")
	}
}

// TestActsFitWhatIsThere: what is created is not there, all else is.
func TestActsFitWhatIsThere(t *testing.T) {
	fits := func(s impl.State, p impl.Plan) {
		for _, a := range p.Acts {
			x, is := impl.EntryOf(s, a.Addr)
			if is == (a.Act == impl.AcCreate) || is && x.Taint && a.Act == impl.AcUpdate {
				t.Fatalf("%s: %s", statesText(s), planText(p))
			}
		}
	}
	for c, p := range promisedPlans(300) {
		fits(c.S, p)
	}
	for c, p := range restoredPlans(300) {
		fits(c.S, p)
	}
}

// TestWhatIsAsWantedStays: once all is as it is wanted, there is nothing to do; made again from nothing, it comes in the order of what needs what.
func TestWhatIsAsWantedStays(t *testing.T) {
	calm := 0
	for l := range drawnSchemes(400) {
		s := settled(l)
		if p, code, _ := impl.PlanOf(l, s); code == impl.CfWell && p.Same == len(s.Entries) && len(p.Acts) == 0 {
			calm++
		}
		if p, ok := impl.RestoreOf(s, s); !ok || len(p.Acts) != 0 || p.Same != len(s.Entries) {
			t.Fatal(statesText(s), planText(p))
		}
		p, ok := impl.RestoreOf(impl.State{}, s)
		if !ok || len(p.Acts) != len(s.Entries) || p.Same != 0 {
			t.Fatal(statesText(s), planText(p))
		}
		for i, a := range p.Acts {
			for _, dep := range a.Deps {
				if placeOf(p, dep) >= i || placeOf(p, dep) < 0 {
					t.Fatal(statesText(s), planText(p))
				}
			}
		}
	}
	if calm < 800 {
		t.Error(calm, "the draws tell nothing")
	}
}

// TestOnlyTellsWhatAnActNeeds: all of it, nothing else, and in the plan's order.
func TestOnlyTellsWhatAnActNeeds(t *testing.T) {
	more := 0
	check := func(p impl.Plan, addr []byte) {
		q, ok := impl.Only(p, addr)
		if !ok || q.Same != p.Same || strings.HasPrefix(placesIn(p, q), "another") {
			t.Fatalf("%s of %s: %s", addr, planText(p), planText(q))
		}
		for i, a := range q.Acts {
			needed := bytes.Equal(a.Addr, addr)
			for _, b := range q.Acts[i+1:] {
				needed = needed || slices.Contains(strings.Fields(texts(b.Deps)), string(a.Addr))
			}
			if !needed {
				t.Fatalf("%s of %s: %s is not needed", addr, planText(p), a.Addr)
			}
			for _, dep := range a.Deps {
				if placeOf(p, dep) >= 0 && placeOf(q, dep) < 0 {
					t.Fatalf("%s of %s: %s lacks", addr, planText(p), dep)
				}
			}
		}
		if placeOf(p, addr) >= 0 && placeOf(q, addr) != len(q.Acts)-1 {
			t.Fatalf("%s of %s: %s", addr, planText(p), planText(q))
		}
		// Asked once more, it says the same.
		if again, ok := impl.Only(q, addr); !ok || !alike(again, q) {
			t.Fatalf("%s of %s: %s", addr, planText(q), planText(again))
		}
		if len(q.Acts) > 1 {
			more++
		}
	}
	for _, p := range promisedPlans(300) {
		for _, a := range p.Acts {
			check(p, a.Addr)
		}
		check(p, []byte("nowhere"))
	}
	if more < 500 {
		t.Error(more, "the draws tell nothing")
	}
}

// TestPlansHaveALineForEachAct: and one more.
func TestPlansHaveALineForEachAct(t *testing.T) {
	lines := func(p impl.Plan) {
		text := string(impl.PlanText(p))
		if strings.Count(text, "\n") != len(p.Acts)+1 || !strings.HasSuffix(text, "\n") || impl.Asks(p) != len(p.Acts) {
			t.Fatalf("%s: %q", planText(p), text)
		}
		for i, line := range strings.Split(text, "\n")[:len(p.Acts)] {
			if !strings.HasPrefix(line+" ", strings.Fields(actText(p.Acts[i]))[0]+" "+string(p.Acts[i].Addr)+" ") {
				t.Fatalf("%s: %q", planText(p), line)
			}
		}
	}
	for _, p := range promisedPlans(300) {
		lines(p)
	}
	for _, p := range restoredPlans(300) {
		lines(p)
	}
	for _, p := range goodPlans() {
		lines(p)
	}
}
