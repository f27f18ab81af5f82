package tests

import (
	"slices"
	"testing"

	"loop.example/g00407/impl"
)

// doByRule does an event that may be to a state that may be, by the state's own lists.
func doByRule(s impl.State, e impl.Event) (impl.State, bool) {
	if !fitsByRule(s, e) {
		return s, false
	}
	pending := s.Pending
	s.Serial++
	s.Entries = slices.Clone(s.Entries)
	at := findByRule(s, pending)
	switch e.Kind {
	case impl.EvBegin:
		s.Open = true
		return s, true
	case impl.EvIntent:
		s.Pending, s.Act = e.Addr, e.Act
		return s, true
	case impl.EvDone:
		s = putByAddr(s, impl.Entry{Addr: e.Addr, Val: e.Val, Deps: e.Deps, Turned: s.Serial})
	case impl.EvGone:
		s.Entries = slices.Delete(s.Entries, at, at+1)
	case impl.EvFail, impl.EvReset:
		if at >= 0 {
			s.Entries[at].Taint, s.Entries[at].Turned = true, s.Serial
		} else if e.Kind == impl.EvReset && len(pending) > 0 {
			s = putByAddr(s, impl.Entry{Addr: pending, Val: vMap(""), Taint: true, Turned: s.Serial})
		}
	}
	s.Open = s.Open && e.Kind != impl.EvReset && e.Kind != impl.EvEnd
	s.Pending, s.Act = nil, 0
	return s, true
}

func fitsByRule(s impl.State, e impl.Event) bool {
	if s.Serial == 1000000 {
		return false
	}
	full := len(s.Entries) == 16
	switch e.Kind {
	case impl.EvBegin:
		return !s.Open
	case impl.EvIntent:
		there := findByRule(s, e.Addr) >= 0
		return s.Open && len(s.Pending) == 0 && there != (e.Act == impl.AcCreate) && (there || !full)
	case impl.EvDone:
		return string(s.Pending) == string(e.Addr) && s.Act != impl.AcDelete && !(full && s.Act == impl.AcCreate)
	case impl.EvGone:
		return string(s.Pending) == string(e.Addr) && s.Act == impl.AcDelete
	case impl.EvFail:
		return string(s.Pending) == string(e.Addr)
	case impl.EvEnd:
		return s.Open && len(s.Pending) == 0
	}
	return s.Open && !(full && s.Act == impl.AcCreate)
}

func putByAddr(s impl.State, x impl.Entry) impl.State {
	s.Entries = slices.DeleteFunc(s.Entries, func(y impl.Entry) bool { return string(y.Addr) == string(x.Addr) })
	at := 0
	for at < len(s.Entries) && string(s.Entries[at].Addr) < string(x.Addr) {
		at++
	}
	s.Entries = slices.Insert(s.Entries, at, x)
	return s
}

// doesByRule fails where Do is not as the rule is, or breaks its promise, and gives what it makes.
func doesByRule(t *testing.T, s impl.State, e impl.Event) (impl.State, bool) {
	t.Helper()
	want, fits := doByRule(s, e)
	made, ok := impl.Do(s, e)
	if ok != fits || !alike(made, want) {
		t.Fatalf("%v\nof %v\nis %v, %v,\nnot %v, %v", e, s, made, ok, want, fits)
	}
	if !impl.StateOk(made) || !stateByRule(made) || !ok && !alike(made, s) || ok && made.Serial != s.Serial+1 {
		t.Fatalf("%v\nof %v\nis %v, %v", e, s, made, ok)
	}
	for _, x := range s.Entries {
		if string(x.Addr) == string(e.Addr) || string(x.Addr) == string(s.Pending) {
			continue
		}
		if at := findByRule(made, x.Addr); at < 0 || !alike(x, made.Entries[at]) {
			t.Fatalf("%v\nof %v: %s did not stay", e, s, x.Addr)
		}
	}
	return made, ok
}

// two are entries for all of these cases: one with Taint, one without.
func two() []impl.Entry {
	return []impl.Entry{entry("a", 3, vMap("k", vInt(1)), "c z"), tainted("c", 4, vMap("k", vInt(2)), "z")}
}

func TestDoWhereItFits(t *testing.T) {
	m := vMap("n", vList(vText("x")))
	a, c := two()[0], two()[1]
	for _, x := range []struct {
		why     string
		s, want impl.State
		e       impl.Event
	}{
		{"the first begin", impl.State{}, impl.State{Serial: 1, Open: true}, evBegin},
		{"begin", calm(7, false, two()...), calm(8, true, two()...), evBegin},
		{"create", calm(7, true, two()...), busy(8, "b", impl.AcCreate, two()...), evIntent("b", impl.AcCreate)},
		{"create the first", calm(7, true), busy(8, "b[1]", impl.AcCreate), evIntent("b[1]", impl.AcCreate)},
		{"create the last", calm(7, true, manyEntries(15)...), busy(8, "b", impl.AcCreate, manyEntries(15)...), evIntent("b", impl.AcCreate)},
		{"update", calm(7, true, two()...), busy(8, "a", impl.AcUpdate, two()...), evIntent("a", impl.AcUpdate)},
		{"replace", calm(7, true, two()...), busy(8, "c", impl.AcReplace, two()...), evIntent("c", impl.AcReplace)},
		{"delete", calm(7, true, two()...), busy(8, "a", impl.AcDelete, two()...), evIntent("a", impl.AcDelete)},
		{"update one of MaxEntries", calm(7, true, manyEntries(16)...), busy(8, "ac", impl.AcUpdate, manyEntries(16)...), evIntent("ac", impl.AcUpdate)},
		{"created ahead", busy(7, "aa", impl.AcCreate, c), calm(8, true, entry("aa", 8, m, "a b"), c), evDone("aa", m, "a b")},
		{"created between", busy(7, "b", impl.AcCreate, two()...), calm(8, true, a, entry("b", 8, m, ""), c), evDone("b", m, "")},
		{"created behind", busy(7, `c["x"]`, impl.AcCreate, two()...), calm(8, true, a, c, entry(`c["x"]`, 8, m, `c["x"]`)), evDone(`c["x"]`, m, `c["x"]`)},
		{"created as the first", busy(7, "b", impl.AcCreate), calm(8, true, entry("b", 8, vMap(""), "")), evDone("b", vMap(""), "")},
		{"created as the last", busy(7, "zz", impl.AcCreate, manyEntries(15)...), calm(8, true, append(manyEntries(15), entry("zz", 8, m, ""))...), evDone("zz", m, "")},
		{"updated", busy(7, "a", impl.AcUpdate, two()...), calm(8, true, entry("a", 8, m, "b"), c), evDone("a", m, "b")},
		{"updated without deps", busy(7, "a", impl.AcUpdate, two()...), calm(8, true, entry("a", 8, vMap(""), ""), c), evDone("a", vMap(""), "")},
		{"updated to what it was", busy(7, "a", impl.AcUpdate, two()...), calm(8, true, entry("a", 8, a.Val, "c z"), c), evDone("a", a.Val, "c z")},
		{"updated, with taint ahead", busy(7, "c", impl.AcUpdate, two()...), calm(8, true, a, entry("c", 8, m, "z")), evDone("c", m, "z")},
		{"replaced, with taint ahead", busy(7, "c", impl.AcReplace, two()...), calm(8, true, a, entry("c", 8, m, "")), evDone("c", m, "")},
		{"one of MaxEntries updated", busy(7, "aa", impl.AcUpdate, manyEntries(16)...), calm(8, true, append([]impl.Entry{entry("aa", 8, m, "")}, manyEntries(16)[1:]...)...), evDone("aa", m, "")},
		{"the first gone", busy(7, "a", impl.AcDelete, two()...), calm(8, true, c), evGone("a")},
		{"the last gone", busy(7, "c", impl.AcDelete, two()...), calm(8, true, a), evGone("c")},
		{"the only one gone", busy(7, "a", impl.AcDelete, a), calm(8, true), evGone("a")},
		{"creating failed", busy(7, "b", impl.AcCreate, two()...), calm(8, true, two()...), evFail("b")},
		{"creating one more than MaxEntries failed", busy(7, "zz", impl.AcCreate, manyEntries(16)...), calm(8, true, manyEntries(16)...), evFail("zz")},
		{"updating failed", busy(7, "a", impl.AcUpdate, two()...), calm(8, true, tainted("a", 8, a.Val, "c z"), c), evFail("a")},
		{"replacing failed", busy(7, "a", impl.AcReplace, two()...), calm(8, true, tainted("a", 8, a.Val, "c z"), c), evFail("a")},
		{"deleting failed", busy(7, "a", impl.AcDelete, two()...), calm(8, true, tainted("a", 8, a.Val, "c z"), c), evFail("a")},
		{"updating failed, with taint ahead", busy(7, "c", impl.AcUpdate, two()...), calm(8, true, a, tainted("c", 8, c.Val, "z")), evFail("c")},
		{"end", calm(7, true, two()...), calm(8, false, two()...), evEnd},
		{"end of nothing", calm(7, true), calm(8, false), evEnd},
		{"reset with nothing under way", calm(7, true, two()...), calm(8, false, two()...), evReset},
		{"reset of MaxEntries", calm(7, true, manyEntries(16)...), calm(8, false, manyEntries(16)...), evReset},
		{"reset while creating", busy(7, "b", impl.AcCreate, two()...), calm(8, false, a, tainted("b", 8, vMap(""), ""), c), evReset},
		{"reset while creating the last", busy(7, "zz", impl.AcCreate, manyEntries(15)...), calm(8, false, append(manyEntries(15), tainted("zz", 8, vMap(""), ""))...), evReset},
		{"reset while updating", busy(7, "a", impl.AcUpdate, two()...), calm(8, false, tainted("a", 8, a.Val, "c z"), c), evReset},
		{"reset while replacing", busy(7, "c", impl.AcReplace, two()...), calm(8, false, a, tainted("c", 8, c.Val, "z")), evReset},
		{"reset while deleting", busy(7, "a", impl.AcDelete, two()...), calm(8, false, tainted("a", 8, a.Val, "c z"), c), evReset},
		{"reset while updating one of MaxEntries", busy(7, "aa", impl.AcUpdate, manyEntries(16)...), calm(8, false, append([]impl.Entry{tainted("aa", 8, vMap("n", vInt(0)), "")}, manyEntries(16)[1:]...)...), evReset},
		{"the last serial", calm(impl.MaxSerial-1, false, two()...), calm(impl.MaxSerial, true, two()...), evBegin},
		{"done at the last serial", busy(impl.MaxSerial-1, "b", impl.AcCreate), calm(impl.MaxSerial, true, entry("b", impl.MaxSerial, m, "")), evDone("b", m, "")},
	} {
		made, ok := impl.Do(x.s, x.e)
		if !ok || !alike(made, x.want) {
			t.Errorf("%s: %v, %v", x.why, made, ok)
		}
		doesByRule(t, x.s, x.e)
	}
}

func TestDoWhereItDoesNotFit(t *testing.T) {
	m := vMap("n", vInt(1))
	create, update, replace, remove := busy(7, "b", impl.AcCreate, two()...), busy(7, "a", impl.AcUpdate, two()...), busy(7, "a", impl.AcReplace, two()...), busy(7, "a", impl.AcDelete, two()...)
	for _, x := range []struct {
		why string
		s   impl.State
		e   impl.Event
	}{
		{"begin at MaxSerial", calm(impl.MaxSerial, false), evBegin},
		{"intent at MaxSerial", calm(impl.MaxSerial, true), evIntent("a", impl.AcCreate)},
		{"done at MaxSerial", busy(impl.MaxSerial, "a", impl.AcCreate), evDone("a", m, "")},
		{"gone at MaxSerial", busy(impl.MaxSerial, "a", impl.AcDelete, two()...), evGone("a")},
		{"fail at MaxSerial", busy(impl.MaxSerial, "a", impl.AcUpdate, two()...), evFail("a")},
		{"end at MaxSerial", calm(impl.MaxSerial, true), evEnd},
		{"reset at MaxSerial", calm(impl.MaxSerial, true), evReset},
		{"begin while open", calm(7, true, two()...), evBegin},
		{"begin while something is under way", update, evBegin},
		{"create while not open", calm(7, false, two()...), evIntent("b", impl.AcCreate)},
		{"update while not open", calm(7, false, two()...), evIntent("a", impl.AcUpdate)},
		{"create while creating", create, evIntent("d", impl.AcCreate)},
		{"create the same while creating", create, evIntent("b", impl.AcCreate)},
		{"update the same while updating", update, evIntent("a", impl.AcUpdate)},
		{"update another while updating", update, evIntent("c", impl.AcUpdate)},
		{"delete while creating", create, evIntent("a", impl.AcDelete)},
		{"create what is there", calm(7, true, two()...), evIntent("a", impl.AcCreate)},
		{"create what is there behind", calm(7, true, two()...), evIntent("c", impl.AcCreate)},
		{"update what is not there", calm(7, true, two()...), evIntent("b", impl.AcUpdate)},
		{"replace what is not there", calm(7, true, two()...), evIntent("aa", impl.AcReplace)},
		{"delete what is not there", calm(7, true, two()...), evIntent("a[1]", impl.AcDelete)},
		{"delete where there is nothing", calm(7, true), evIntent("a", impl.AcDelete)},
		{"create one more than MaxEntries", calm(7, true, manyEntries(16)...), evIntent("zz", impl.AcCreate)},
		{"create one of MaxEntries", calm(7, true, manyEntries(16)...), evIntent("aa", impl.AcCreate)},
		{"done with nothing under way", calm(7, true, two()...), evDone("a", m, "")},
		{"done with nothing open", calm(7, false, two()...), evDone("a", m, "")},
		{"done with nothing there", impl.State{}, evDone("a", m, "")},
		{"done at another entry", update, evDone("c", m, "")},
		{"done at what is not there", update, evDone("b", m, "")},
		{"done at another address while creating", create, evDone("a", m, "")},
		{"done at a longer address", create, evDone("b[0]", m, "")},
		{"done while deleting", remove, evDone("a", m, "")},
		{"created one more than MaxEntries", busy(7, "zz", impl.AcCreate, manyEntries(16)...), evDone("zz", m, "")},
		{"gone with nothing under way", calm(7, true, two()...), evGone("a")},
		{"gone at another entry", remove, evGone("c")},
		{"gone at what is not there", remove, evGone("b")},
		{"gone while creating", create, evGone("b")},
		{"gone while updating", update, evGone("a")},
		{"gone while replacing", replace, evGone("a")},
		{"fail with nothing under way", calm(7, true, two()...), evFail("a")},
		{"fail with nothing open", calm(7, false, two()...), evFail("a")},
		{"fail at another entry", update, evFail("c")},
		{"fail at what is not there", remove, evFail("b")},
		{"end while creating", create, evEnd},
		{"end while updating", update, evEnd},
		{"end while replacing", replace, evEnd},
		{"end while deleting", remove, evEnd},
		{"end while not open", calm(7, false, two()...), evEnd},
		{"end of the zero state", impl.State{}, evEnd},
		{"reset while not open", calm(7, false, two()...), evReset},
		{"reset of the zero state", impl.State{}, evReset},
		{"reset while creating one more than MaxEntries", busy(7, "zz", impl.AcCreate, manyEntries(16)...), evReset},
	} {
		made, ok := impl.Do(x.s, x.e)
		if ok || !alike(made, x.s) {
			t.Errorf("%s: %v, %v", x.why, made, ok)
		}
		doesByRule(t, x.s, x.e)
	}
}

func TestDoOfWhatMayNotBe(t *testing.T) {
	events := []impl.Event{evBegin, evIntent("a", impl.AcCreate), evIntent("a", impl.AcDelete), evDone("a", vMap(""), ""), evGone("a"), evFail("a"), evEnd, evReset, {Kind: 7}}
	for why, s := range badStates() {
		for _, e := range events {
			if made, ok := impl.Do(s, e); ok || !alike(made, impl.State{}) {
				t.Error(why, e.Kind, made)
			}
		}
	}
	states := []impl.State{{}, calm(7, true, two()...), busy(7, "a", impl.AcUpdate, two()...), busy(7, "a", impl.AcDelete, two()...), calm(impl.MaxSerial, true, two()...), calm(-1, false)}
	for why, e := range badEvents() {
		for _, s := range states {
			if made, ok := impl.Do(s, e); ok || !alike(made, impl.State{}) {
				t.Error(why, made)
			}
		}
	}
}

// TestEachEventOfEachState puts all small states together with all small events.
func TestEachEventOfEachState(t *testing.T) {
	m := vMap("n", vInt(1))
	var events []impl.Event
	for _, addr := range []string{"a", "b", "c"} {
		for act := impl.AcCreate; act <= impl.AcDelete; act++ {
			events = append(events, evIntent(addr, act))
		}
		events = append(events, evDone(addr, m, ""), evDone(addr, vMap(""), "a b c"), evGone(addr), evFail(addr))
	}
	events = append(events, evBegin, evEnd, evReset)
	lists := [][]impl.Entry{nil, two()[:1], two()[1:], two(), manyEntries(15), manyEntries(16), append(two()[:1], manyEntries(15)...)}
	states, fitting := 0, 0
	for _, serial := range []int{0, 4, 5, impl.MaxSerial - 1, impl.MaxSerial} {
		for _, l := range lists {
			for _, open := range []bool{false, true} {
				for _, pending := range []string{"", "a", "b", "c", "aa"} {
					for act := impl.AcNone; act <= impl.AcDelete; act++ {
						s := impl.State{Serial: serial, Open: open, Pending: []byte(pending), Act: act, Entries: l}
						if !stateByRule(s) {
							continue
						}
						states++
						for _, e := range events {
							if _, ok := doesByRule(t, s, e); ok {
								fitting++
							}
						}
					}
				}
			}
		}
	}
	if states < 100 || fitting < 300 {
		t.Error("only", states, "and", fitting)
	}
}

// fitting draws an event that has a fair chance to fit s.
func (d *draw) fitting(s impl.State, addrs ...string) impl.Event {
	if !s.Open && d.upTo(2) == 0 {
		return evBegin
	}
	if len(s.Pending) == 0 || d.upTo(3) == 0 {
		return d.event(addrs...)
	}
	if s.Act == impl.AcDelete && d.upTo(2) == 0 {
		return evGone(string(s.Pending))
	}
	e := d.event(string(s.Pending))
	if e.Kind == impl.EvDone {
		e.Deps = d.someOf(impl.MaxDeps, addrs...)
	}
	return e
}

// TestWalks goes from the zero state on by events that fit or do not.
func TestWalks(t *testing.T) {
	d := draw(11)
	done := [7]int{}
	most := 0
	for _, addrs := range [][]string{fewAddrs, manyAddrs} {
		var s impl.State
		for range 2500 {
			e := d.fitting(s, addrs...)
			// Of the many seldom, so that MaxEntries come about.
			if len(addrs) > impl.MaxEntries && e.Act == impl.AcDelete && d.upTo(4) > 0 {
				continue
			}
			now, ok := doesByRule(t, s, e)
			if ok {
				done[e.Kind]++
			}
			s = now
			most = max(most, len(s.Entries))
		}
	}
	for kind, n := range done {
		if n < 40 {
			t.Error("only", n, "of kind", kind)
		}
	}
	if most != impl.MaxEntries {
		t.Error("at most", most)
	}
}

// TestDoOfDrawnStates takes states that no walk needs to come to.
func TestDoOfDrawnStates(t *testing.T) {
	d := draw(13)
	done, refused := [7]int{}, [7]int{}
	for i, s := range drawnStates(1500) {
		addrs := fewAddrs
		if i%4 == 0 {
			addrs = manyAddrs
		}
		for range 4 {
			e := d.fitting(s, addrs...)
			if _, ok := doesByRule(t, s, e); ok {
				done[e.Kind]++
			} else {
				refused[e.Kind]++
			}
		}
	}
	for kind := range done {
		if done[kind] < 20 || refused[kind] < 20 {
			t.Error("only", done[kind], "and", refused[kind], "of kind", kind)
		}
	}
}

// TestUnderWay: from its EvIntent to its end, and nothing else beside it.
func TestUnderWay(t *testing.T) {
	d := draw(17)
	var s impl.State
	under := ""
	ends := 0
	for range 4000 {
		e := d.fitting(s, fewAddrs...)
		now, ok := impl.Do(s, e)
		if ok && under != "" {
			if e.Kind == impl.EvBegin || e.Kind == impl.EvIntent || e.Kind == impl.EvEnd || e.Kind != impl.EvReset && string(e.Addr) != under {
				t.Fatal(e, "while", under, "is under way")
			}
			under = ""
			ends++
		} else if ok && e.Kind == impl.EvIntent {
			under = string(e.Addr)
		}
		if string(now.Pending) != under || (now.Act != 0) != (under != "") || under != "" && !now.Open {
			t.Fatal(now, under)
		}
		s = now
	}
	if ends < 100 {
		t.Error("only", ends)
	}
}
