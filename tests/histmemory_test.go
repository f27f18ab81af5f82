package tests

import (
	"math"
	"slices"
	"strconv"
	"testing"

	"loop.example/g00407/impl"
)

// looseHistory copies h with marked room behind each of its lists.
func looseHistory(h impl.History) impl.History {
	out := impl.History{Base: looseState(h.Base), Safe: h.Safe}
	for _, e := range h.Events {
		out.Events = append(out.Events, looseEvent(e))
	}
	// What lies behind would fit, one way or the other.
	behind := evBegin
	if head, ok := impl.HistHead(h); ok && head.Open {
		behind = evReset
	}
	out.Events = roomyOf(out.Events, behind)
	return out
}

// histAnswers are all that the functions of histories say of these.
func histAnswers(h impl.History, n int, other int, e impl.Event, addr []byte, p []impl.Step) map[string][]any {
	out := map[string][]any{}
	tell := func(name string, answers ...any) { out[name] = answers }
	head, ok := impl.HistHead(h)
	tell("HistHead", head, ok)
	at, ok := impl.HistAt(h, n)
	tell("HistAt", at, ok)
	more, ok := impl.HistAdd(h, e)
	tell("HistAdd", more, ok)
	tell("HistSync", impl.HistSync(h))
	tell("HistCrash", impl.HistCrash(h, n))
	less, ok := impl.HistCompact(h, n)
	tell("HistCompact", less, ok)
	since, ok := impl.Blame(h, n, addr, p)
	tell("Blame", since, ok)
	l, ok := impl.Between(h, n, other, addr)
	tell("Between", l, ok)
	b, ok := impl.HistBytes(h)
	tell("HistBytes", b, ok)
	tell("Touches", impl.Touches(h, addr))
	tell("HistText", impl.HistText(h))
	tell("HistOk", impl.HistOk(h))
	return out
}

// eachHistCase calls with a history, two serials, an event, an address and a path, of which all, some or none may be.
func eachHistCase(call func(h impl.History, n int, other int, e impl.Event, addr []byte, p []impl.Step)) {
	m := vMap("k l", vText("x"), vList(vText("y")))
	events := []impl.Event{evBegin, evEnd, evReset, evIntent("a", impl.AcUpdate), evDone("a", m, "a b"), evIntent("A", 1), {Kind: 9, Addr: []byte("a"), Val: m, Deps: keysOf("a")}}
	histories := append(drawnHistories(12, 14), impl.History{}, histOf(impl.State{}, 7, life()...), histOf(calm(40, false, entry("z", 7, m, "a")), 9, life()...), histOf(busy(9, "a", impl.AcUpdate, two()...), 0), histOf(impl.State{}, 0, append(turnsOf(39), evIntent("a", impl.AcCreate))...))
	histories = append(histories, histOf(impl.State{}, -1, life()...), histOf(calm(-1, true), 0, life()...), histOf(impl.State{}, 0, life()[1:]...), histOf(impl.State{}, 0, evBegin, events[6]))
	paths := [][]impl.Step{nil, way(".k"), way(".l[0]"), way(".a.b.c.d.e.f.g"), {{Kind: 9, Key: []byte("k")}}}
	for i, h := range histories {
		for j, e := range events {
			n := h.Base.Serial + (i+3*j)%(len(h.Events)+1)
			call(h, n, h.Base.Serial+len(h.Events)-j%2, e, []byte([]string{"a", "b", "a", ""}[(i+j)%4]), paths[(i+2*j)%5])
		}
		call(h, math.MaxInt, math.MinInt, evEnd, nil, nil)
		call(h, -1, 0, evBegin, []byte("A["), paths[3])
	}
}

func TestHistoryConventions(t *testing.T) {
	eachHistCase(func(h impl.History, n int, other int, e impl.Event, addr []byte, p []impl.Step) {
		what := " of " + strconv.Itoa(len(h.Events)) + " events at " + strconv.Itoa(n)
		plainly := histAnswers(h, n, other, e, addr, p)
		wideH, wideE, wideAddr, wideP := looseHistory(h), looseEvent(e), roomyOf(addr, 'q'), looseWay(p)
		given := []any{wideH, wideE, wideAddr, wideP}
		var answers map[string][]any
		for _, one := range given {
			stays(t, what, one, func() { answers = histAnswers(wideH, n, other, wideE, wideAddr, wideP) })
		}
		for name, answer := range answers {
			newMemory(t, name+what, answer, given)
			for i := range answer {
				if !alike(answer[i], plainly[name][i]) {
					t.Errorf("%s%s: the room behind a list plays a part", name, what)
				}
			}
		}
	})
}

// TestSharedHistoriesComeApart: parts of the arguments may share memory, those of an answer may not.
func TestSharedHistoriesComeApart(t *testing.T) {
	v, deps, text := vMap("k l", vList(vText("x"), vText("x")), vText("x")), keysOf("a ab"), []byte("abc")
	intent := impl.Event{Kind: impl.EvIntent, Addr: text, Act: impl.AcUpdate}
	done := impl.Event{Kind: impl.EvDone, Addr: text, Val: v, Deps: deps}
	x := impl.Entry{Addr: text[:1], Val: v, Deps: deps, Turned: 1}
	y := impl.Entry{Addr: text, Val: v, Deps: deps, Turned: 1}
	h := histOf(calm(5, true, x, y), 3, intent, done, intent, done, intent)
	if !impl.HistOk(h) {
		t.Fatal(h)
	}
	apart := func(name string, ok bool, answer any) {
		t.Helper()
		if !ok {
			t.Error(name)
		}
		newMemory(t, name, []any{answer}, []any{h, done})
	}
	more, ok := impl.HistAdd(h, done)
	apart("HistAdd", ok, more)
	same, ok := impl.HistAdd(h, evBegin)
	apart("HistAdd of no fit", !ok && alike(same, h), same)
	apart("HistSync", true, impl.HistSync(h))
	apart("HistCrash", true, impl.HistCrash(h, 1))
	apart("HistCrash of all", true, impl.HistCrash(h, 9))
	for floor := 5; floor <= 8; floor++ {
		less, fine := impl.HistCompact(h, floor)
		apart("HistCompact", fine, less)
	}
	for serial := 5; serial <= 10; serial++ {
		s, fine := impl.HistAt(h, serial)
		apart("HistAt", fine, s)
	}
	head, ok := impl.HistHead(h)
	apart("HistHead", ok, head)
	gone := histOf(busy(5, "abc", impl.AcDelete, y), 0, evGone("abc"), evIntent("abc", impl.AcCreate), done)
	for _, c := range [][2]int{{5, 6}, {6, 5}, {6, 8}, {5, 8}} {
		l, fine := impl.Between(gone, c[0], c[1], text)
		newMemory(t, "Between", []any{l}, []any{gone, done})
		if !fine {
			t.Error(c)
		}
	}
}

// TestEmptyAndNilHistories: an empty list and nil are the same.
func TestEmptyAndNilHistories(t *testing.T) {
	bare := histOf(calm(4, true), 0, evIntent("a", impl.AcCreate), evDone("a", impl.Value{Kind: impl.VkMap}, ""))
	full := impl.History{Base: impl.State{Serial: 4, Open: true, Pending: []byte{}, Entries: []impl.Entry{}}}
	empty := impl.Value{S: []byte{}, K: [][]byte{}, L: []impl.Value{}}
	for _, e := range bare.Events {
		kind := e.Val.Kind
		e.Val, e.Deps = empty, [][]byte{}
		e.Val.Kind = kind
		full.Events = append(full.Events, e)
	}
	for name, answer := range histAnswers(bare, 5, 6, evEnd, []byte("a"), nil) {
		for i, other := range histAnswers(full, 5, 6, evEnd, []byte("a"), []impl.Step{})[name] {
			if !alike(answer[i], other) {
				t.Error(name, answer[i], other)
			}
		}
	}
	for name, answer := range histAnswers(impl.History{}, 0, 0, evBegin, nil, nil) {
		for i, other := range histAnswers(impl.History{Events: []impl.Event{}}, 0, 0, evBegin, []byte{}, nil)[name] {
			if !alike(answer[i], other) {
				t.Error(name, answer[i], other)
			}
		}
	}
}

// TestHistoriesHangOnNothingElse asks for the same again and again, with others between.
func TestHistoriesHangOnNothingElse(t *testing.T) {
	base := calm(3, false, manyEntries(13)...)
	h := histOf(base, 9, life()...)
	ask := func() map[string][]any { return histAnswers(h, 10, 20, evBegin, []byte("a"), way(".k")) }
	want := ask()
	for i, other := range slices.Concat(drawnHistories(30, 10), []impl.History{{}}) {
		histAnswers(other, i, i, evEnd, []byte("a"), nil)
		for name, answer := range ask() {
			for k := range answer {
				if !alike(answer[k], want[name][k]) {
					t.Fatal(name, answer)
				}
			}
		}
	}
}
