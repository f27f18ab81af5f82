package tests

import (
	"iter"
	"maps"
	"math"
	"slices"
	"strconv"
	"testing"

	"loop.example/g00407/impl"
)

func histOf(base impl.State, safe int, events ...impl.Event) impl.History {
	return impl.History{Base: base, Events: events, Safe: safe}
}

// life has an event of each kind and an intent of each act; "a" is one thing, another, and the first again, "b" goes and comes back.
func life() []impl.Event {
	xy, xz := vList(vText("x"), vText("y")), vList(vText("x"), vText("z"))
	return []impl.Event{
		evBegin,
		evIntent("a", impl.AcCreate),
		evDone("a", vMap("k l", vInt(1), xy), ""),
		evIntent("b", impl.AcCreate),
		evDone("b", vMap("k", vInt(1)), "a"),
		evEnd,
		evBegin,
		evIntent("a", impl.AcUpdate),
		evFail("a"),
		evIntent("a", impl.AcReplace),
		evDone("a", vMap("k l", vInt(2), xz), `a["x"] b`),
		evIntent("b", impl.AcDelete),
		evGone("b"),
		evIntent("c[3]", impl.AcCreate),
		evReset,
		evBegin,
		evIntent("b", impl.AcCreate),
		evDone("b", vMap("k", vInt(1)), ""),
		evIntent("a", impl.AcUpdate),
		evDone("a", vMap("k l", vInt(1), xz), ""),
		evIntent("a", impl.AcDelete),
		evFail("a"),
		evEnd,
	}
}

// turnsOf are so many events, each of which begins or ends a run.
func turnsOf(n int) []impl.Event {
	var out []impl.Event
	for i := range n {
		out = append(out, []impl.Event{evBegin, evEnd}[i%2])
	}
	return out
}

// fullRun is one run of MaxEvents events, all of its values as great as may be.
func fullRun() impl.History {
	out := histOf(impl.State{}, 7, evBegin, evIntent("aa", impl.AcCreate), evDone("aa", wideMap(40), manyKeys(8)))
	for i := 0; len(out.Events) < impl.MaxEvents-1; i++ {
		v := wideMap(40)
		v.L[i%39] = vText("0123456789abcdefghij")
		out.Events = append(out.Events, evIntent("aa", impl.AcUpdate+i%2), evDone("aa", v, manyKeys(i%9)))
	}
	out.Events = append(out.Events, evEnd)
	return out
}

// statesByRule are what h was, serial by serial from its floor on; false if it may not be.
func statesByRule(h impl.History) ([]impl.State, bool) {
	if !stateByRule(h.Base) || len(h.Events) > 300 || h.Safe < 0 || h.Safe > len(h.Events) {
		return nil, false
	}
	out := []impl.State{h.Base}
	for _, e := range h.Events {
		if !eventByRule(e) {
			return nil, false
		}
		now, fits := doByRule(out[len(out)-1], e)
		if !fits {
			return nil, false
		}
		out = append(out, now)
	}
	return out, true
}

// goodHistories: histories that may be.
func goodHistories() map[string]impl.History {
	a := entry("a", 3, vMap("k", vInt(5)), "b")
	out := map[string]impl.History{
		"zero":                              {},
		"lists that are empty":              {Base: impl.State{Pending: []byte{}, Entries: []impl.Entry{}}, Events: []impl.Event{}},
		"no events":                         histOf(calm(9, false, a), 0),
		"no events, something under way":    histOf(busy(9, "a", impl.AcDelete, a), 0),
		"no events at MaxSerial":            histOf(calm(impl.MaxSerial, true, a), 0),
		"one event":                         histOf(impl.State{}, 0, evBegin),
		"one that is safe":                  histOf(impl.State{}, 1, evBegin),
		"a life":                            histOf(impl.State{}, 0, life()...),
		"a life, some of it safe":           histOf(impl.State{}, 12, life()...),
		"a life, all of it safe":            histOf(impl.State{}, len(life()), life()...),
		"a life behind another serial":      histOf(calm(40, false, entry("aa", 7, vMap(""), "")), 5, life()...),
		"a base that is open":               histOf(calm(9, true, a), 1, evIntent("b", impl.AcCreate), evDone("b", vMap(""), "a"), evEnd),
		"a base that creates":               histOf(busy(9, "b", impl.AcCreate, a), 0, evDone("b", vMap("z", vTrue), ""), evEnd),
		"a base that creates in vain":       histOf(busy(9, "b", impl.AcCreate, a), 1, evFail("b")),
		"a base that updates":               histOf(busy(9, "a", impl.AcUpdate, a), 2, evDone("a", vMap("k", vInt(6)), ""), evEnd, evBegin),
		"a base that deletes":               histOf(busy(9, "a", impl.AcDelete, a), 0, evGone("a"), evIntent("a", impl.AcCreate), evReset),
		"a base that is reset":              histOf(busy(9, "b", impl.AcCreate, a), 1, evReset),
		"a full base that creates in vain":  histOf(busy(9, "zz", impl.AcCreate, manyEntries(16)...), 0, evFail("zz"), evEnd),
		"the last serial":                   histOf(calm(impl.MaxSerial-2, false, a), 1, evBegin, evEnd),
		"MaxEvents":                         histOf(impl.State{}, 0, turnsOf(300)...),
		"MaxEvents, all safe":               histOf(impl.State{}, 300, turnsOf(300)...),
		"MaxEvents up to the last serial":   histOf(calm(impl.MaxSerial-300, true), 100, turnsOf(301)[1:]...),
		"MaxEvents as great as may be":      fullRun(),
		"one less than MaxEvents":           histOf(impl.State{}, 150, turnsOf(299)...),
		"entries that events do not name":   histOf(calm(3, false, manyEntries(13)...), 2, life()...),
		"many entries and one more created": histOf(calm(3, true, manyEntries(15)...), 2, evIntent("zz", impl.AcCreate), evDone("zz", vMap(""), ""), evEnd),
	}
	for n := range len(life()) + 1 {
		out["the first "+strconv.Itoa(n)+" of a life"] = histOf(impl.State{}, n/2, life()[:n]...)
	}
	return out
}

// badHistories: histories that may not be, each for one reason.
func badHistories() map[string]impl.History {
	n := len(life())
	a := entry("a", 3, vMap(""), "")
	out := map[string]impl.History{
		"safe -1":                                histOf(impl.State{}, -1, life()...),
		"safe -1 of nothing":                     histOf(impl.State{}, -1),
		"least safe":                             histOf(impl.State{}, math.MinInt, life()...),
		"one more safe than there are":           histOf(impl.State{}, n+1, life()...),
		"one safe of none":                       histOf(impl.State{}, 1),
		"one safe of none, behind a serial":      histOf(calm(9, false, a), 1),
		"greatest safe":                          histOf(impl.State{}, math.MaxInt, life()...),
		"MaxEvents + 1":                          histOf(impl.State{}, 0, turnsOf(301)...),
		"MaxEvents + 1, all safe":                histOf(impl.State{}, 301, turnsOf(301)...),
		"far too many":                           histOf(impl.State{}, 0, turnsOf(100000)...),
		"an event behind MaxSerial":              histOf(calm(impl.MaxSerial, false), 0, evBegin),
		"the second event behind MaxSerial":      histOf(calm(impl.MaxSerial-1, false), 0, evBegin, evEnd),
		"begin of a base that is open":           histOf(calm(9, true, a), 0, evBegin),
		"end of a base that is not open":         histOf(calm(9, false, a), 0, evEnd),
		"intent while the base is not open":      histOf(calm(9, false, a), 0, evIntent("a", impl.AcUpdate)),
		"intent while the base is busy":          histOf(busy(9, "a", impl.AcUpdate, a), 0, evIntent("a", impl.AcUpdate)),
		"done of another one than the base's":    histOf(busy(9, "a", impl.AcUpdate, a), 0, evDone("b", vMap(""), "")),
		"one too many created from the base on":  histOf(calm(9, true, manyEntries(16)...), 0, evIntent("zz", impl.AcCreate)),
		"one too many done from the base on":     histOf(busy(9, "zz", impl.AcCreate, manyEntries(16)...), 0, evDone("zz", vMap(""), "")),
		"one too many created by events":         histOf(calm(9, true, manyEntries(15)...), 0, evIntent("zy", impl.AcCreate), evDone("zy", vMap(""), ""), evIntent("zz", impl.AcCreate)),
		"created twice":                          histOf(calm(9, true), 0, evIntent("a", impl.AcCreate), evDone("a", vMap(""), ""), evIntent("a", impl.AcCreate)),
		"updated what went":                      histOf(busy(9, "a", impl.AcDelete, a), 0, evGone("a"), evIntent("a", impl.AcUpdate)),
		"an end too many":                        histOf(impl.State{}, 0, append(life(), evEnd)...),
		"a life from another base on":            histOf(calm(9, false, a), 0, life()...),
		"a life without its first one":           histOf(impl.State{}, 0, life()[1:]...),
		"MaxEvents, the last of which is no fit": histOf(impl.State{}, 0, append(turnsOf(299), evBegin)...),
	}
	for why, s := range badStates() {
		out["a base: "+why] = histOf(s, 0)
		out["a base ahead of an event: "+why] = histOf(s, 0, evBegin)
	}
	for why, e := range badEvents() {
		for _, i := range []int{0, n / 2, n} {
			out["at "+strconv.Itoa(i)+": "+why] = histOf(impl.State{}, 0, slices.Insert(life(), i, e)...)
		}
	}
	for i, e := range life() {
		out["twice the one at "+strconv.Itoa(i)] = histOf(impl.State{}, 0, slices.Insert(life(), i, e)...)
		// Without an intent a reset fits all the same, and the last end may lack.
		if e.Kind != impl.EvIntent && e.Kind != impl.EvEnd {
			out["without the one at "+strconv.Itoa(i)] = histOf(impl.State{}, 0, slices.Delete(life(), i, i+1)...)
		}
	}
	return out
}

// few draws one of few maps, so that what was comes again.
func (d *draw) few() impl.Value {
	l := vList(vText("x"), vInt(d.upTo(2)))
	return []impl.Value{vMap(""), vMap("a", vInt(1)), vMap("a b", vInt(1), l), vMap("a b", vInt(2), l), vMap("b", vMap("c", l)), vMap("b", vList(l, vNull))}[d.upTo(6)]
}

// history draws one that may be, of at most so many events, at some of these addresses.
func (d *draw) history(most int, addrs ...string) impl.History {
	var h impl.History
	if d.upTo(2) == 0 {
		h.Base = d.state(addrs...)
	}
	now := h.Base
	for range 3 * most {
		e := d.fitting(now, addrs...)
		if e.Kind == impl.EvDone && d.upTo(4) > 0 {
			e.Val = d.few()
		}
		if next, fits := doByRule(now, e); fits && len(h.Events) < most {
			h.Events = append(h.Events, e)
			now = next
		}
	}
	h.Safe = d.upTo(len(h.Events) + 1)
	return h
}

// drawnHistories are so many that may be: most of them of few addresses, which events come to again and again.
func drawnHistories(n int, most int) []impl.History {
	d := draw(n)
	var out []impl.History
	for i := range n {
		switch {
		case i%5 == 0:
			out = append(out, d.history(most, manyAddrs...))
		case i%5 < 3:
			out = append(out, d.history(most, "a"))
		default:
			out = append(out, d.history(most, fewAddrs...))
		}
	}
	return out
}

// manyHistories tells all of these, each with a name, in one order at each run.
func manyHistories(n int, most int) iter.Seq2[string, impl.History] {
	all := goodHistories()
	for i, h := range drawnHistories(n, most) {
		all["drawn "+strconv.Itoa(i)] = h
	}
	return func(yield func(string, impl.History) bool) {
		for _, why := range slices.Sorted(maps.Keys(all)) {
			if !yield(why, all[why]) {
				return
			}
		}
	}
}

// aroundHistory are serials at the ends of a history, beside them and far from them.
func aroundHistory(h impl.History) []int {
	low, high := h.Base.Serial, h.Base.Serial+len(h.Events)
	return []int{low - 1, low, low + 1, (low + high) / 2, high - 1, high, high + 1, -1, 0, impl.MaxSerial + 1, math.MinInt, math.MaxInt}
}

func within(h impl.History, serial int) bool {
	return h.Base.Serial <= serial && serial <= h.Base.Serial+len(h.Events)
}

func TestHistoryLimits(t *testing.T) {
	if impl.MaxEvents != 300 {
		t.Error(impl.MaxEvents)
	}
}

func TestHistoriesThatMayBe(t *testing.T) {
	for why, h := range manyHistories(300, 40) {
		if _, ok := statesByRule(h); !ok || !impl.HistOk(h) {
			t.Error(why, ok)
		}
		for _, safe := range []int{math.MinInt, -1, 0, 1, len(h.Events) - 1, len(h.Events), len(h.Events) + 1, math.MaxInt} {
			if impl.HistOk(histOf(h.Base, safe, h.Events...)) != (0 <= safe && safe <= len(h.Events)) {
				t.Error(why, "safe", safe)
			}
		}
	}
	for n := 295; n < 306; n++ {
		if impl.HistOk(histOf(impl.State{}, n/2, turnsOf(n)...)) != (n <= 300) {
			t.Error(n, "events")
		}
	}
}

// refused fails where a function does not answer as it must of a history that may not be.
func refused(t *testing.T, why string, h impl.History) {
	t.Helper()
	if _, ok := statesByRule(h); ok || impl.HistOk(h) {
		t.Error(why, "may be")
	}
	if s, ok := impl.HistHead(h); ok || !alike(s, impl.State{}) {
		t.Error(why, "has a head", s)
	}
	for _, n := range aroundHistory(h) {
		if s, ok := impl.HistAt(h, n); ok || !alike(s, impl.State{}) {
			t.Error(why, "was at", n, s)
		}
		if x, ok := impl.HistCompact(h, n); ok || !alike(x, impl.History{}) {
			t.Error(why, "is compacted at", n, x)
		}
		if x := impl.HistCrash(h, n); !alike(x, impl.History{}) {
			t.Error(why, "is left with", n, x)
		}
		if since, ok := impl.Blame(h, n, []byte("a"), nil); ok || since != 0 {
			t.Error(why, "is so since", since)
		}
		if l, ok := impl.Between(h, n, h.Base.Serial, []byte("a")); ok || len(l) != 0 {
			t.Error(why, "has differences", l)
		}
	}
	for _, e := range []impl.Event{evBegin, evEnd, evReset, evIntent("x", impl.AcCreate), {Kind: 7}} {
		if x, ok := impl.HistAdd(h, e); ok || !alike(x, impl.History{}) {
			t.Error(why, "takes", e, x)
		}
	}
	if x := impl.HistSync(h); !alike(x, impl.History{}) {
		t.Error(why, "is safe", x)
	}
	if b, ok := impl.HistBytes(h); ok || len(b) != 0 {
		t.Errorf("%s has bytes %q", why, b)
	}
	if l := impl.Touches(h, []byte("a")); len(l) != 0 {
		t.Error(why, "touches", l)
	}
	if text := impl.HistText(h); len(text) != 0 {
		t.Errorf("%s has the text %q", why, text)
	}
}

func TestHistoriesThatMayNotBe(t *testing.T) {
	for why, h := range badHistories() {
		refused(t, why, h)
	}
}

// TestHistoriesByRule takes histories one thing of which, perhaps, is as it may not be.
func TestHistoriesByRule(t *testing.T) {
	d := draw(19)
	fine, bad := 0, 0
	for _, h := range drawnHistories(2000, 12) {
		n := len(h.Events)
		switch d.upTo(5) {
		case 0:
			h.Base = d.meddled(h.Base)
		case 1:
			h.Safe = d.upTo(n+4) - 2
		case 2:
			h.Events = slices.Insert(h.Events, d.upTo(n+1), d.event(fewAddrs...))
		case 3:
			if n > 0 {
				i := d.upTo(n)
				h.Events = slices.Delete(slices.Clone(h.Events), i, i+1)
			}
		case 4:
			if n > 1 {
				i := d.upTo(n - 1)
				h.Events[i], h.Events[i+1] = h.Events[i+1], h.Events[i]
			}
		}
		if _, ok := statesByRule(h); ok {
			fine++
			if !impl.HistOk(h) {
				t.Fatal(h)
			}
		} else {
			bad++
			refused(t, "drawn", h)
		}
	}
	if fine < 400 || bad < 400 {
		t.Error("only", fine, "and", bad)
	}
}

// TestWhatAHistoryWas: it is what its events make, one by one, by the rule and by Do.
func TestWhatAHistoryWas(t *testing.T) {
	told := 0
	for why, h := range manyHistories(200, 40) {
		states, _ := statesByRule(h)
		done := h.Base
		for i, want := range states {
			s, ok := impl.HistAt(h, h.Base.Serial+i)
			if !ok || !alike(s, want) || !alike(s, done) || s.Serial != h.Base.Serial+i {
				t.Fatal(why, i, s, ok)
			}
			if i < len(h.Events) {
				done, _ = impl.Do(done, h.Events[i])
			}
			told++
		}
		if s, ok := impl.HistHead(h); !ok || !alike(s, states[len(states)-1]) {
			t.Error(why, "has the head", s, ok)
		}
		for _, serial := range aroundHistory(h) {
			s, ok := impl.HistAt(h, serial)
			if ok != within(h, serial) || !ok && !alike(s, impl.State{}) {
				t.Error(why, serial, s, ok)
			}
		}
	}
	if told < 4000 {
		t.Error("only", told)
	}
}

func TestHistAtPlainly(t *testing.T) {
	h := histOf(calm(40, false, entry("z", 7, vMap(""), "")), 0, life()...)
	z := entry("z", 7, vMap(""), "")
	xz := vList(vText("x"), vText("z"))
	for serial, want := range map[int]impl.State{
		40: calm(40, false, z),
		41: calm(41, true, z),
		42: busy(42, "a", impl.AcCreate, z),
		45: calm(45, true, entry("a", 43, vMap("k l", vInt(1), vList(vText("x"), vText("y"))), ""), entry("b", 45, vMap("k", vInt(1)), "a"), z),
		52: busy(52, "b", impl.AcDelete, entry("a", 51, vMap("k l", vInt(2), xz), `a["x"] b`), entry("b", 45, vMap("k", vInt(1)), "a"), z),
		53: calm(53, true, entry("a", 51, vMap("k l", vInt(2), xz), `a["x"] b`), z),
		55: calm(55, false, entry("a", 51, vMap("k l", vInt(2), xz), `a["x"] b`), tainted("c[3]", 55, vMap(""), ""), z),
		63: calm(63, false, tainted("a", 62, vMap("k l", vInt(1), xz), ""), entry("b", 58, vMap("k", vInt(1)), ""), tainted("c[3]", 55, vMap(""), ""), z),
	} {
		if s, ok := impl.HistAt(h, serial); !ok || !alike(s, want) {
			t.Error(serial, s, ok)
		}
	}
	for _, serial := range []int{39, 64, 0, -1} {
		if s, ok := impl.HistAt(h, serial); ok {
			t.Error(serial, s)
		}
	}
}

// addByRule is h with e behind all, if it fits.
func addByRule(h impl.History, e impl.Event) (impl.History, bool) {
	states, _ := statesByRule(h)
	if !eventByRule(e) {
		return impl.History{}, false
	}
	if _, fits := doByRule(states[len(states)-1], e); !fits || len(h.Events) == 300 {
		return h, false
	}
	return histOf(h.Base, h.Safe, append(slices.Clone(h.Events), e)...), true
}

func TestHistAdd(t *testing.T) {
	d := draw(23)
	added, stayed := 0, 0
	for why, h := range manyHistories(300, 30) {
		head, _ := impl.HistHead(h)
		events := []impl.Event{evBegin, evEnd, evReset, evIntent("a", impl.AcCreate), evIntent("x", impl.AcDelete), {Kind: 7}, {Kind: -1}, evIntent("A", 1), evDone("a", vMap("k", vUnknown), "")}
		for range 5 {
			events = append(events, d.fitting(head, fewAddrs...))
		}
		for _, e := range events {
			want, fits := addByRule(h, e)
			x, ok := impl.HistAdd(h, e)
			if ok != fits || !alike(x, want) {
				t.Fatal(why, e, x, ok)
			}
			if ok {
				added++
			} else {
				stayed++
			}
		}
	}
	if added < 600 || stayed < 600 {
		t.Error("only", added, "and", stayed)
	}
}

func TestHistAddAtTheLimit(t *testing.T) {
	for _, e := range []impl.Event{evBegin, evEnd, evReset} {
		if x, ok := impl.HistAdd(histOf(impl.State{}, 9, turnsOf(300)...), e); ok || !alike(x, histOf(impl.State{}, 9, turnsOf(300)...)) {
			t.Error("one more than MaxEvents", e)
		}
	}
	if x, ok := impl.HistAdd(histOf(impl.State{}, 9, turnsOf(299)...), evEnd); !ok || !alike(x, histOf(impl.State{}, 9, turnsOf(300)...)) {
		t.Error("the last of MaxEvents")
	}
	if x, ok := impl.HistAdd(histOf(impl.State{}, 9, turnsOf(300)...), impl.Event{Kind: 7}); ok || !alike(x, impl.History{}) {
		t.Error("what is no event counts first", x)
	}
	full := histOf(calm(impl.MaxSerial, false), 0)
	if x, ok := impl.HistAdd(full, evBegin); ok || !alike(x, full) {
		t.Error("one more than MaxSerial", x)
	}
	for why, e := range badEvents() {
		if x, ok := impl.HistAdd(histOf(impl.State{}, 2, life()...), e); ok || !alike(x, impl.History{}) {
			t.Error(why, x)
		}
	}
}

// TestHistoriesGrow adds event by event.
func TestHistoriesGrow(t *testing.T) {
	for why, whole := range manyHistories(60, 40) {
		h := histOf(whole.Base, 0)
		for i, e := range whole.Events {
			x, ok := impl.HistAdd(h, e)
			if !ok {
				t.Fatal(why, i, e)
			}
			h = x
		}
		if h.Safe != 0 || !alike(h.Events, whole.Events) || !alike(h.Base, whole.Base) {
			t.Error(why, h)
		}
	}
}

func TestHistSync(t *testing.T) {
	for why, h := range manyHistories(200, 30) {
		for _, safe := range []int{0, h.Safe, len(h.Events) / 2, len(h.Events)} {
			x := impl.HistSync(histOf(h.Base, safe, h.Events...))
			if !alike(x, histOf(h.Base, len(h.Events), h.Events...)) || !impl.HistOk(x) {
				t.Error(why, safe, x)
			}
		}
	}
}

// crashByRule counts one by one what is left.
func crashByRule(h impl.History, keep int) impl.History {
	n := h.Safe
	for i := 1; i <= keep && n < len(h.Events); i++ {
		n++
	}
	return histOf(h.Base, n, h.Events[:n]...)
}

func TestHistCrash(t *testing.T) {
	for why, h := range manyHistories(80, 25) {
		for _, safe := range []int{0, h.Safe, len(h.Events) / 2, len(h.Events)} {
			h.Safe = safe
			left := len(h.Events) - safe
			for _, keep := range []int{math.MinInt, -1, 0, 1, 2, left - 1, left, left + 1, math.MaxInt - safe, math.MaxInt - 1, math.MaxInt} {
				x := impl.HistCrash(h, keep)
				if !alike(x, crashByRule(h, keep)) || !impl.HistOk(x) {
					t.Fatal(why, safe, keep, x)
				}
				if len(x.Events) < safe || x.Safe != len(x.Events) || !alike(x.Events, h.Events[:len(x.Events)]) {
					t.Fatal(why, safe, keep, "is not the beginning", x)
				}
			}
		}
	}
}

func TestHistCrashPlainly(t *testing.T) {
	h := histOf(calm(3, false), 2, evBegin, evEnd, evBegin, evIntent("a", impl.AcCreate), evFail("a"))
	for keep, want := range map[int]int{math.MinInt: 2, -1: 2, 0: 2, 1: 3, 2: 4, 3: 5, 4: 5, math.MaxInt: 5} {
		x := impl.HistCrash(h, keep)
		if x.Safe != want || !alike(x.Events, h.Events[:want]) || !alike(x.Base, h.Base) {
			t.Error(keep, x)
		}
	}
}

// TestWhatACrashLeaves: at all serials that are left it was as it was.
func TestWhatACrashLeaves(t *testing.T) {
	for why, h := range manyHistories(40, 25) {
		if len(h.Events) > 40 {
			continue
		}
		states, _ := statesByRule(h)
		for keep := range len(h.Events) - h.Safe + 2 {
			x := impl.HistCrash(h, keep)
			for i, want := range states {
				s, ok := impl.HistAt(x, h.Base.Serial+i)
				if ok != (i <= x.Safe) || ok && !alike(s, want) {
					t.Fatal(why, keep, i, s, ok)
				}
			}
		}
	}
}

func TestHistCompact(t *testing.T) {
	for why, h := range manyHistories(60, 25) {
		if len(h.Events) > 40 {
			h.Safe = min(h.Safe, 2)
		}
		states, _ := statesByRule(h)
		for gone := range h.Safe + 1 {
			floor := h.Base.Serial + gone
			x, ok := impl.HistCompact(h, floor)
			if !ok || !impl.HistOk(x) || !alike(x, histOf(states[gone], h.Safe-gone, h.Events[gone:]...)) {
				t.Fatal(why, floor, x, ok)
			}
			for i := 0; i < len(states); i += 1 + len(states)/40 {
				s, is := impl.HistAt(x, h.Base.Serial+i)
				if is != (i >= gone) || is && !alike(s, states[i]) {
					t.Fatal(why, floor, i, s, is)
				}
			}
		}
		low, high := h.Base.Serial, h.Base.Serial+h.Safe
		for _, floor := range []int{math.MinInt, low - 1, high + 1, high + 2, low + len(h.Events) + 1, math.MaxInt} {
			if x, ok := impl.HistCompact(h, floor); ok || !alike(x, impl.History{}) {
				t.Error(why, floor, x)
			}
		}
	}
}

func TestHistCompactPlainly(t *testing.T) {
	a := entry("a", 12, vMap("k", vInt(1)), "")
	h := histOf(calm(9, false), 4, evBegin, evIntent("a", impl.AcCreate), evDone("a", vMap("k", vInt(1)), ""), evIntent("a", impl.AcDelete), evGone("a"), evEnd)
	for floor, want := range map[int]impl.History{
		9:  h,
		10: histOf(calm(10, true), 3, h.Events[1:]...),
		11: histOf(busy(11, "a", impl.AcCreate), 2, h.Events[2:]...),
		12: histOf(calm(12, true, a), 1, h.Events[3:]...),
		13: histOf(busy(13, "a", impl.AcDelete, a), 0, h.Events[4:]...),
	} {
		if x, ok := impl.HistCompact(h, floor); !ok || !alike(x, want) {
			t.Error(floor, x, ok)
		}
	}
	for _, floor := range []int{8, 14, 15, 0, -9} {
		if x, ok := impl.HistCompact(h, floor); ok || !alike(x, impl.History{}) {
			t.Error(floor, x)
		}
	}
	all, ok := impl.HistCompact(impl.HistSync(h), 15)
	if !ok || !alike(all, histOf(calm(15, false), 0)) {
		t.Error(all, ok)
	}
}

// TestWhatWasForgottenChangesNothing: a history goes on alike, compacted or not.
func TestWhatWasForgottenChangesNothing(t *testing.T) {
	d := draw(29)
	for _, h := range drawnHistories(150, 20) {
		less, ok := impl.HistCompact(h, h.Base.Serial+d.upTo(h.Safe+1))
		if !ok {
			t.Fatal(h)
		}
		for range 10 {
			head, _ := impl.HistHead(h)
			e := d.fitting(head, fewAddrs...)
			more, fits := impl.HistAdd(h, e)
			then, is := impl.HistAdd(less, e)
			now, _ := impl.HistHead(more)
			other, _ := impl.HistHead(then)
			if fits != is || !alike(now, other) {
				t.Fatal(h, less, e)
			}
			h, less = more, then
		}
	}
}
