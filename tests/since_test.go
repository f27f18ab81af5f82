package tests

import (
	"math"
	"slices"
	"testing"

	"loop.example/g00407/impl"
)

// standsByRule gives what is at a path of an entry.
func standsByRule(s impl.State, addr string, p []impl.Step) (impl.Value, bool) {
	i := findByRule(s, []byte(addr))
	if i < 0 {
		return impl.Value{}, false
	}
	return atByRule(s.Entries[i].Val, p)
}

// blameByRule tries all serials, from the floor on, and asks all behind them.
func blameByRule(h impl.History, serial int, addr string, p []impl.Step) (int, bool) {
	states, ok := statesByRule(h)
	if !ok || !within(h, serial) || !aPath.MatchString(wayText(p)) {
		return 0, false
	}
	last := serial - h.Base.Serial
	stands, there := standsByRule(states[last], addr, p)
	if !there {
		return 0, false
	}
	for n := range states {
		if !slices.ContainsFunc(states[n:last+1], func(s impl.State) bool {
			v, is := standsByRule(s, addr, p)
			return !is || !sameByRule(v, stands)
		}) {
			return h.Base.Serial + n, true
		}
	}
	return 0, false
}

// valByRule is an entry's value, or an empty map.
func valByRule(s impl.State, addr string) impl.Value {
	if v, ok := standsByRule(s, addr, nil); ok {
		return v
	}
	return vMap("")
}

func touchesByRule(h impl.History, addr string) []int {
	var out []int
	for i, e := range h.Events {
		if withAddr(e.Kind) && string(e.Addr) == addr {
			out = append(out, h.Base.Serial+i+1)
		}
	}
	return out
}

func TestBlamePlainly(t *testing.T) {
	h := histOf(calm(40, false, entry("z", 7, vMap("k", vList(vNull)), "")), 0, life()...)
	for _, c := range []struct {
		why    string
		serial int
		addr   string
		path   string
		want   int
	}{
		{"since it was done", 50, "a", ".k", 43},
		{"since the serial itself", 43, "a", ".k", 43},
		{"one behind it", 44, "a", ".k", 43},
		{"another one", 51, "a", ".k", 51},
		{"the last of the other one", 59, "a", ".k", 51},
		{"the first one again", 60, "a", ".k", 60},
		{"the first one again, at the head", 63, "a", ".k", 60},
		{"a part that stayed", 63, "a", ".l[0]", 43},
		{"the part beside it", 63, "a", ".l[1]", 51},
		{"the list of both", 63, "a", ".l", 51},
		{"the whole of it", 63, "a", "", 60},
		{"the whole of it, taint playing no part", 50, "a", "", 43},
		{"the whole of it ahead", 59, "a", "", 51},
		{"ahead of its going", 52, "b", ".k", 45},
		{"it came back as it was", 58, "b", ".k", 58},
		{"the whole of what came back", 63, "b", "", 58},
		{"an empty map since a reset", 63, "c[3]", "", 55},
		{"an empty map at the reset", 55, "c[3]", "", 55},
		{"since the floor, at the floor", 40, "z", "", 40},
		{"since the floor", 63, "z", "", 40},
		{"since the floor, deep", 63, "z", ".k[0]", 40},
	} {
		if since, ok := impl.Blame(h, c.serial, []byte(c.addr), way(c.path)); !ok || since != c.want {
			t.Error(c.why, since, ok)
		}
	}
	for _, c := range []struct {
		why    string
		serial int
		addr   string
		path   []impl.Step
	}{
		{"ahead of its coming", 42, "a", nil},
		{"at the floor", 40, "a", way(".k")},
		{"what went", 53, "b", nil},
		{"what is coming back", 57, "b", way(".k")},
		{"what is to be created", 54, "c[3]", nil},
		{"no such key", 63, "a", way(".z")},
		{"no such place", 63, "a", way(".l[2]")},
		{"deeper than there is", 63, "a", way(".k.k")},
		{"a place of a map", 63, "a", way("[0]")},
		{"a part of an empty map", 63, "c[3]", way(".k")},
		{"no such entry", 63, "d", nil},
		{"the empty address", 63, "", nil},
		{"what is no address", 63, "A", nil},
		{"a piece of an address", 63, "c", nil},
		{"one below the floor", 39, "z", nil},
		{"one above the head's", 64, "z", nil},
		{"the least serial", math.MinInt, "z", nil},
		{"the greatest serial", math.MaxInt, "z", nil},
		{"serial 0", 0, "z", nil},
		{"a path that is too long", 63, "z", way(".k[0].k.k.k.k.k")},
		{"a key with a place", 63, "z", []impl.Step{{Kind: impl.StKey, Key: []byte("k"), I: 1}}},
		{"a place with a key", 63, "z", append(way(".k"), impl.Step{Kind: impl.StItem, Key: []byte("k")})},
		{"a place below 0", 63, "z", append(way(".k"), sItem(-1))},
	} {
		if since, ok := impl.Blame(h, c.serial, []byte(c.addr), c.path); ok || since != 0 {
			t.Error(c.why, since, ok)
		}
	}
	for why, p := range badPaths() {
		if since, ok := impl.Blame(h, 63, []byte("z"), p); ok || since != 0 {
			t.Error(why, since)
		}
	}
}

// TestBlameDeep: the deepest part of a value, the longest path, and null, which is something.
func TestBlameDeep(t *testing.T) {
	deep := func(v impl.Value) impl.Value { return vMap("a b", vNull, vMap("a", vMap("a", vMap("a", v)))) }
	h := histOf(calm(5, true), 0, evIntent("x", impl.AcCreate), evDone("x", deep(vInt(1)), ""), evIntent("x", impl.AcUpdate), evDone("x", deep(vInt(2)), ""))
	for path, want := range map[string]int{"": 9, ".a": 7, ".b": 9, ".b.a.a.a": 9} {
		if since, ok := impl.Blame(h, 9, []byte("x"), way(path)); !ok || since != want {
			t.Error(path, since, ok)
		}
	}
	for _, path := range []string{".b.a.a.a.a", ".b.a.a.a.a.a", ".a.a"} {
		if since, ok := impl.Blame(h, 9, []byte("x"), way(path)); ok {
			t.Error(path, since)
		}
	}
}

func TestBlameByRule(t *testing.T) {
	d := draw(31)
	found, none, again := 0, 0, 0
	for why, h := range manyHistories(250, 40) {
		states, _ := statesByRule(h)
		for range 30 {
			serial := h.Base.Serial - 1 + d.upTo(len(states)+2)
			addr := append([]string{"a", "aa", ""}, fewAddrs...)[d.upTo(8)]
			p := d.path()
			if within(h, serial) && d.upTo(5) > 0 {
				s := states[serial-h.Base.Serial]
				if n := len(s.Entries); n > 0 {
					addr = string(s.Entries[d.upTo(n)].Addr)
				}
				ways := waysOfParts(valByRule(s, addr))
				p = ways[d.upTo(len(ways))]
			}
			want, is := blameByRule(h, serial, addr, p)
			since, ok := impl.Blame(h, serial, []byte(addr), p)
			if ok != is || since != want {
				t.Fatal(why, serial, addr, wayText(p), since, ok, "not", want, is)
			}
			if !ok {
				none++
				continue
			}
			found++
			if since > h.Base.Serial+2 && stoodEarlier(states[:since-h.Base.Serial], addr, p, states[serial-h.Base.Serial]) {
				again++
			}
		}
	}
	if found < 2000 || none < 500 || again < 50 {
		t.Error("only", found, none, again)
	}
}

// stoodEarlier tells whether what stands there now stood so at one of these.
func stoodEarlier(states []impl.State, addr string, p []impl.Step, now impl.State) bool {
	want, _ := standsByRule(now, addr, p)
	return slices.ContainsFunc(states, func(s impl.State) bool {
		v, ok := standsByRule(s, addr, p)
		return ok && sameByRule(v, want)
	})
}

// TestStoodSoSinceThen: what stands stood so since Blame tells, and not ahead of that, as HistAt, EntryOf and At say.
func TestStoodSoSinceThen(t *testing.T) {
	at := func(h impl.History, serial int, addr []byte, p []impl.Step) (impl.Value, bool) {
		s, ok := impl.HistAt(h, serial)
		x, there := impl.EntryOf(s, addr)
		if !ok || !there {
			return impl.Value{}, false
		}
		return impl.At(x.Val, p)
	}
	for _, h := range drawnHistories(60, 20) {
		head, _ := impl.HistHead(h)
		for _, x := range head.Entries {
			for _, p := range impl.Leaves(x.Val) {
				since, ok := impl.Blame(h, head.Serial, x.Addr, p)
				want, there := impl.At(x.Val, p)
				if !ok || !there {
					t.Fatal(h, string(x.Addr), wayText(p))
				}
				for n := since; n <= head.Serial; n++ {
					if v, is := at(h, n, x.Addr, p); !is || !alike(v, want) {
						t.Fatal(h, string(x.Addr), wayText(p), since, n)
					}
				}
				if v, is := at(h, since-1, x.Addr, p); is && alike(v, want) {
					t.Fatal(h, string(x.Addr), wayText(p), since)
				}
			}
		}
	}
}

// TestBlameOfWhatWasForgotten: it is not told from ahead of the floor.
func TestBlameOfWhatWasForgotten(t *testing.T) {
	for _, h := range drawnHistories(60, 20) {
		head, _ := impl.HistHead(h)
		floor := h.Base.Serial + h.Safe
		less, _ := impl.HistCompact(h, floor)
		for _, x := range head.Entries {
			since, ok := impl.Blame(h, head.Serial, x.Addr, nil)
			then, is := impl.Blame(less, head.Serial, x.Addr, nil)
			if !ok || !is || then != max(since, floor) {
				t.Fatal(h, string(x.Addr), since, then)
			}
		}
	}
}

func TestBetweenPlainly(t *testing.T) {
	h := histOf(calm(40, false, entry("z", 7, vMap("k", vList(vNull)), "")), 0, life()...)
	list := vList(vText("x"), vText("y"))
	for _, c := range []struct {
		why      string
		from, to int
		addr     string
		want     []impl.Change
	}{
		{"the same serial", 50, 50, "a", nil},
		{"the floor alone", 40, 40, "z", nil},
		{"the head alone", 63, 63, "a", nil},
		{"it stayed", 40, 63, "z", nil},
		{"taint plays no part", 48, 49, "a", nil},
		{"it came", 40, 45, "a", []impl.Change{comes(".k", vInt(1)), comes(".l", list)}},
		{"it came, backward", 45, 40, "a", []impl.Change{goes(".k", vInt(1)), goes(".l", list)}},
		{"another one", 43, 51, "a", []impl.Change{turns(".k", vInt(1), vInt(2)), turns(".l[1]", vText("y"), vText("z"))}},
		{"another one, backward", 51, 43, "a", []impl.Change{turns(".k", vInt(2), vInt(1)), turns(".l[1]", vText("z"), vText("y"))}},
		{"to the head", 45, 63, "a", []impl.Change{turns(".l[1]", vText("y"), vText("z"))}},
		{"it went", 52, 53, "b", []impl.Change{goes(".k", vInt(1))}},
		{"it went and came back", 45, 63, "b", nil},
		{"an empty map came", 54, 55, "c[3]", nil},
		{"at neither", 40, 63, "d", nil},
		{"gone at both", 53, 57, "b", nil},
		{"the empty address", 40, 63, "", nil},
		{"what is no address", 40, 63, "c[", nil},
	} {
		if l, ok := impl.Between(h, c.from, c.to, []byte(c.addr)); !ok || !alike(l, c.want) {
			t.Error(c.why, changeTexts(l), ok)
		}
	}
	for _, c := range [][2]int{{39, 50}, {50, 39}, {64, 50}, {50, 64}, {39, 39}, {64, 64}, {39, 64}, {0, 1}, {-1, -1}, {math.MinInt, 50}, {50, math.MaxInt}, {math.MaxInt, 40}} {
		if l, ok := impl.Between(h, c[0], c[1], []byte("a")); ok || len(l) != 0 {
			t.Error(c, changeTexts(l))
		}
	}
}

// TestBetweenDone: done to what was at one time it makes what was at the other one.
func TestBetweenDone(t *testing.T) {
	d := draw(37)
	told, one, neither := 0, 0, 0
	for why, h := range manyHistories(250, 40) {
		states, _ := statesByRule(h)
		for range 15 {
			i, j := d.upTo(len(states)), d.upTo(len(states))
			addr := append([]string{"a", "aa", "ab"}, fewAddrs...)[d.upTo(8)]
			was, is := valByRule(states[i], addr), valByRule(states[j], addr)
			l, ok := impl.Between(h, h.Base.Serial+i, h.Base.Serial+j, []byte(addr))
			if !ok || !alike(l, diffByRule(was, is, nil)) {
				t.Fatal(why, i, j, addr, changeTexts(l), ok)
			}
			if made, fits := impl.Patch(was, l); !fits || !alike(made, is) {
				t.Fatal(why, i, j, addr, changeTexts(l), made)
			}
			if back, fine := impl.Between(h, h.Base.Serial+j, h.Base.Serial+i, []byte(addr)); !fine || !alike(back, turnedByRule(l)) {
				t.Fatal(why, i, j, addr, changeTexts(back))
			}
			a, b := findByRule(states[i], []byte(addr)) >= 0, findByRule(states[j], []byte(addr)) >= 0
			if a != b {
				one++
			} else if !a {
				neither++
			}
			told += len(l)
		}
		for _, serial := range aroundHistory(h) {
			if _, ok := impl.Between(h, serial, h.Base.Serial, []byte("a")); ok != within(h, serial) {
				t.Error(why, "from", serial)
			}
			if _, ok := impl.Between(h, h.Base.Serial, serial, []byte("a")); ok != within(h, serial) {
				t.Error(why, "to", serial)
			}
		}
	}
	if told < 500 || one < 200 || neither < 200 {
		t.Error("only", told, one, neither)
	}
}

func TestTouchesPlainly(t *testing.T) {
	h := histOf(calm(40, false, entry("z", 7, vMap(""), "")), 3, life()...)
	for addr, want := range map[string][]int{
		"a":    {42, 43, 48, 49, 50, 51, 59, 60, 61, 62},
		"b":    {44, 45, 52, 53, 57, 58},
		"c[3]": {54},
		"c":    nil, "z": nil, "d": nil, "": nil, "A": nil, `a["x"]`: nil, "c[": nil,
	} {
		if l := impl.Touches(h, []byte(addr)); !alike(l, want) {
			t.Errorf("%q: %v", addr, l)
		}
	}
	if l := impl.Touches(h, nil); len(l) != 0 {
		t.Error(l)
	}
	if l := impl.Touches(histOf(impl.State{}, 0, life()[:3]...), []byte("a")); !alike(l, []int{2, 3}) {
		t.Error(l)
	}
	if l := impl.Touches(histOf(busy(9, "a", impl.AcCreate), 0), []byte("a")); len(l) != 0 {
		t.Error(l)
	}
}

// TestTouchesByRule: an entry turns at those serials alone that Touches tells, or at an EvReset.
func TestTouchesByRule(t *testing.T) {
	turned, resets := 0, 0
	for why, h := range manyHistories(200, 40) {
		states, _ := statesByRule(h)
		touched := map[string][]int{}
		for _, addr := range slices.Concat(fewAddrs, manyAddrs, []string{"a[1]", "c[3]", "zz"}) {
			touched[addr] = impl.Touches(h, []byte(addr))
			if !alike(touched[addr], touchesByRule(h, addr)) || !slices.IsSorted(touched[addr]) {
				t.Fatal(why, addr, touched[addr])
			}
		}
		for i := 1; i < len(states); i++ {
			for addr, serials := range touched {
				was, is := findByRule(states[i-1], []byte(addr)), findByRule(states[i], []byte(addr))
				same := was >= 0 && is >= 0 && alike(states[i-1].Entries[was], states[i].Entries[is]) || was < 0 && is < 0
				if same {
					continue
				}
				turned++
				if h.Events[i-1].Kind == impl.EvReset {
					resets++
				} else if !slices.Contains(serials, states[i].Serial) {
					t.Fatal(why, addr, states[i].Serial, serials)
				}
				if is >= 0 && states[i].Entries[is].Turned != states[i].Serial {
					t.Fatal(why, addr, states[i])
				}
			}
		}
	}
	if turned < 500 || resets < 20 {
		t.Error("only", turned, resets)
	}
}
