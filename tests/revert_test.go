package tests

import (
	"slices"
	"strings"
	"testing"

	"loop.example/g00407/impl"
)

// revertedTo tells what Revert tells: the codes and what was written; "no" and what was written; or "false".
func revertedTo(h impl.History, serial int, answers []int) string {
	x, codes, ok := impl.Revert(h, serial, answers)
	switch {
	case !ok && len(codes) > 0:
		return "codes beside a false"
	case !ok && alike(x, impl.History{}) && !alike(h, impl.History{}):
		return "false"
	case !goesOn(h, x):
		return "another history"
	case !impl.HistOk(x):
		return "no history"
	case !ok:
		return strings.TrimSpace("no: " + storyText(x, len(h.Events)))
	}
	return strings.TrimSpace(codesText(codes) + ": " + storyText(x, len(h.Events)))
}

// turnedTo is a history that has the first entries at serial 9, its floor, and the second ones at its head.
func turnedTo(t *testing.T, was []string, is []string) impl.History {
	t.Helper()
	h := histOf(there(was...), 0)
	add := func(e impl.Event) {
		x, ok := impl.HistAdd(h, e)
		if !ok {
			t.Fatal(eventTextByRule(e))
		}
		h = x
	}
	add(evBegin)
	now := there(is...)
	for _, x := range h.Base.Entries {
		if findByRule(now, x.Addr) < 0 {
			add(evIntent(string(x.Addr), impl.AcDelete))
			add(evGone(string(x.Addr)))
		}
	}
	for _, x := range now.Entries {
		act := impl.AcUpdate
		if findByRule(h.Base, x.Addr) < 0 {
			act = impl.AcCreate
		}
		add(evIntent(string(x.Addr), act))
		add(evDone(string(x.Addr), x.Val, texts(x.Deps)))
		if x.Taint {
			add(evIntent(string(x.Addr), impl.AcUpdate))
			add(evFail(string(x.Addr)))
		}
	}
	add(evEnd)
	return h
}

// reverts fails where what comes of going back from the second entries to the first ones, which are parted by bars, is not what stands behind the answers.
func reverts(t *testing.T, table [][4]string) {
	t.Helper()
	split := func(text string) []string {
		if text == "" {
			return nil
		}
		return strings.Split(text, " | ")
	}
	for _, c := range table {
		if got := revertedTo(turnedTo(t, split(c[0]), split(c[1])), 9, numsOf(c[2])); got != c[3] {
			t.Errorf("%s back to %s, %s:\n%s, wanted\n%s", c[1], c[0], c[2], got, c[3])
		}
	}
}

// TestRevertOfWhatMayNotBe: a history that may not be, and each serial out of it.
func TestRevertOfWhatMayNotBe(t *testing.T) {
	for why, h := range badHistories() {
		for _, serial := range []int{h.Base.Serial, h.Base.Serial + len(h.Events), 0, 5} {
			x, codes, ok := impl.Revert(h, serial, []int{1, 2})
			if ok || len(codes) > 0 || !alike(x, impl.History{}) {
				t.Error(why, serial, codes, ok)
			}
		}
	}
	for why, h := range goodHistories() {
		for _, serial := range aroundHistory(h) {
			x, codes, ok := impl.Revert(h, serial, []int{1, 2})
			if !within(h, serial) && (ok || len(codes) > 0 || !alike(x, impl.History{})) {
				t.Error(why, serial, codes, ok)
			}
			if within(h, serial) && !goesOn(h, x) {
				t.Error(why, serial, codes, ok)
			}
		}
	}
	// The serial that EvReset makes is none that was.
	open := histOf(calm(9, true), 0)
	if got := revertedTo(open, 10, nil); got != "false" {
		t.Error(got)
	}
}

func TestRevertActByAct(t *testing.T) {
	reverts(t, [][4]string{
		{"", "", "", ": begin; end |"}, {"a {id = 1, x = 2}", "a {id = 1, x = 2}", "5", ": begin; end |"}, {"a {id = 1, x = 2}", "a {id = 9, x = 2}", "5", ": begin; end |"}, {"a {x = 2}", "a {id = 9, x = 2}", "5", ": begin; end |"},
		{"a {id = 1, x = 2}", "", "5", "done: begin; intent a create; done a {id = 5, x = 2}; end |"}, {"a {id = 1, x = 2}", "", "0", "fail: begin; intent a create; fail a; end |"}, {"a {id = 1, x = 2}", "", "", "stop: begin; intent a create |"},
		{"a {id = 1, x = 2}", "a {id = 7, x = 3}", "5", "done: begin; intent a update; done a {id = 7, x = 2}; end |"}, {"a {id = 1, x = 2}", "a {x = 3}", "5", "done: begin; intent a update; done a {id = 5, x = 2}; end |"}, {"a {id = 1}", `a {id = "i", x = 3}`, "5", `done: begin; intent a update; done a {id = "i"}; end |`}, {"a {x = 2}", "a {x = 3}", "0", "fail: begin; intent a update; fail a; end |"}, {"a {x = 2}", "a {x = 3}", "", "stop: begin; intent a update |"},
		{"a {id = 1, kind = 2}", "a {id = 7, kind = 3}", "5", "done: begin; intent a replace; done a {id = 5, kind = 2}; end |"}, {"a {id = 1, x = 2}", "!a {id = 1, x = 2}", "5", "done: begin; intent a replace; done a {id = 5, x = 2}; end |"}, {"a {kind = 2}", "a {}", "0", "fail: begin; intent a replace; fail a; end |"}, {"a {kind = 2}", "a {}", "", "stop: begin; intent a replace |"},
		{"", "a {id = 1}", "5", "done: begin; intent a delete; gone a; end |"}, {"", "a {id = 1}", "0", "fail: begin; intent a delete; fail a; end |"}, {"", "a {id = 1}", "", "stop: begin; intent a delete |"},
		{"!a {id = 1, x = 2}", "", "5", "done: begin; intent a create; done a {id = 5, x = 2}; end |"},
		{"a {x = [{id = 3}]} | b {id = 1} | c {}", "b {id = 2, y = 1} | d {}", "4 5 6 7", "done done done done: begin; intent a create; done a {id = 4, x = [{id = 3}]}; intent b update; done b {id = 2}; intent c create; done c {id = 6}; intent d delete; gone d; end |"},
	})
	// Values are those of then, even if they were made of what is another one now.
	reverts(t, [][4]string{
		{"a {id = 1} | b {id = 2, x = 1} needs a", "", "5 6", "done done: begin; intent a create; done a {id = 5}; intent b create; done b {id = 6, x = 1} needs a; end |"},
		{"a {id = 1} needs b | b {id = 2}", "", "5 6", "done done: begin; intent b create; done b {id = 5}; intent a create; done a {id = 6} needs b; end |"},
	})
}

// TestRevertSkips: what needs what failed, and what is to go and is needed.
func TestRevertSkips(t *testing.T) {
	reverts(t, [][4]string{
		{"a {id = 1} | b {id = 2} needs a | c {id = 3} needs b | d {}", "", "0 6", "fail skip skip done: begin; intent a create; fail a; intent d create; done d {id = 6}; end |"},
		{"a {id = 1, x = 1} | b {id = 2} needs a", "a {id = 1}", "0 6", "fail skip: begin; intent a update; fail a; end |"},
		// Deps of which there was no entry are not needed, and not told.
		{"a {} needs q z | b {} needs a q", "q {}", "5 6 7", "done done done: begin; intent a create; done a {id = 5}; intent b create; done b {id = 6} needs a; intent q delete; gone q; end |"},
		// What stays keeps its Deps.
		{"b {x = 1}", "a {} | b {x = 1} needs a", "5", "skip: begin; end |"}, {"b {x = 1}", "a {} | b {x = 2} needs a", "5 6", "done done: begin; intent b update; done b {id = 5, x = 1}; intent a delete; gone a; end |"}, {"b {x = 1}", "a {} | b {x = 2} needs a", "0 6", "fail skip: begin; intent b update; fail b; end |"},
		{"", "a {} | b {} needs a", "0 6", "fail skip: begin; intent b delete; fail b; end |"}, {"", "a {} | b {} needs a", "5 6", "done done: begin; intent b delete; gone b; intent a delete; gone a; end |"}, {"", "a {} | !b {} needs a", "0 6", "fail skip: begin; intent b delete; fail b; end |"},
		// Rings: what comes first can't have what it needs, and what goes is needed for ever.
		{"a {} needs b | b {} needs a", "", "5 6", "done done: begin; intent a create; done a {id = 5} needs b; intent b create; done b {id = 6} needs a; end |"}, {"a {} needs b | b {} needs a", "", "0 6", "fail skip: begin; intent a create; fail a; end |"}, {"a {} needs a", "", "5", "done: begin; intent a create; done a {id = 5} needs a; end |"},
		{"", "a {} needs b | b {} needs a", "5 6", "skip skip: begin; end |"}, {"", "a {} needs a", "5", "done: begin; intent a delete; gone a; end |"},
	})
}

// TestRevertToWhatIsTooGreat: what was without an id may be too great with one.
func TestRevertToWhatIsTooGreat(t *testing.T) {
	for parts, want := range map[int]string{39: "done done", 40: "value skip"} {
		h := histOf(calm(9, false, entry("a", 1, wideMap(parts), ""), entry("b", 1, vMap(""), "a")), 0, evBegin, evIntent("b", impl.AcDelete), evGone("b"), evIntent("a", impl.AcDelete), evGone("a"), evEnd)
		_, codes, ok := impl.Revert(h, 9, []int{5, 6})
		if !ok || codesText(codes) != want {
			t.Error(parts, codesText(codes), ok)
		}
		// What was with a great id has room for another one.
		great := vMap("id", wide(parts-1))
		h = histOf(calm(9, false, entry("a", 1, great, "")), 0, evBegin, evIntent("a", impl.AcDelete), evGone("a"), evEnd)
		if got := revertedTo(h, 9, []int{5}); got != "done: begin; intent a create; done a {id = 5}; end |" {
			t.Error(parts, got)
		}
	}
	// What is changed keeps the id that is there now, which may be great.
	for parts, want := range map[int]string{36: "done", 37: "value"} {
		id := wide(parts)
		h := histOf(calm(9, false, entry("a", 1, vMap("x", wide(3)), "")), 0, evBegin, evIntent("a", impl.AcUpdate), evDone("a", vMap("id", id), ""), evEnd)
		x, codes, ok := impl.Revert(h, 9, []int{5})
		if !ok || codesText(codes) != want || len(x.Events) != len(h.Events)+2+2*strings.Count(want, "done") {
			t.Error(parts, codesText(codes), ok)
		}
	}
}

// TestRevertFromAnOpenHead: EvReset is written ahead of all, and what was is told by the history as it was.
func TestRevertFromAnOpenHead(t *testing.T) {
	s := there("a {id = 1, x = 1}", "b {id = 2} needs a")
	run := []impl.Event{evBegin, evIntent("a", impl.AcUpdate), evDone("a", vMap("id x", vInt(1), vInt(2)), ""), evIntent("b", impl.AcDelete)}
	h := histOf(s, 1, run...)
	for serial, want := range map[int]string{
		8: "false", 9: "done done: reset; begin; intent a update; done a {id = 1, x = 1}; intent b replace; done b {id = 6} needs a; end |", 11: "done done: reset; begin; intent a update; done a {id = 1, x = 1}; intent b replace; done b {id = 6} needs a; end |",
		12: "done: reset; begin; intent b replace; done b {id = 5} needs a; end |", 13: "done: reset; begin; intent b replace; done b {id = 5} needs a; end |", 14: "false",
	} {
		if got := revertedTo(h, serial, []int{5, 6}); got != want {
			t.Errorf("%d: %s, wanted %s", serial, got, want)
		}
	}
	h = histOf(s, 0, evBegin, evIntent("c", impl.AcCreate))
	if got := revertedTo(h, 11, []int{5, 6}); got != "done: reset; begin; intent c delete; gone c; end |" {
		t.Error(got)
	}
	if got := revertedTo(histOf(calm(9, true), 0), 9, nil); got != ": reset; begin; end |" {
		t.Error(got)
	}
}

// TestRevertsThatCantBegin: the history as it is then, nothing and false.
func TestRevertsThatCantBegin(t *testing.T) {
	a := entry("a", 1, vMap(""), "")
	for _, c := range []struct {
		why  string
		h    impl.History
		want string
		safe int
	}{
		{"MaxEvents", histOf(impl.State{}, 4, turnsOf(300)...), "no:", 4},
		{"MaxEvents, open", histOf(calm(4, true, a), 4, append(turnsOf(300)[1:], evBegin)...), "no:", 4},
		{"one less than MaxEvents, open", histOf(impl.State{}, 4, turnsOf(299)...), "no: reset |", 300},
		{"one less than MaxEvents, something under way", histOf(impl.State{}, 4, append(turnsOf(297), evIntent("a", impl.AcCreate), evFail("a"))...), "no: reset |", 300},
		{"MaxSerial", histOf(calm(impl.MaxSerial, false, a), 0), "no:", 0},
		{"MaxSerial, open", histOf(calm(impl.MaxSerial, true, a), 0), "no:", 0},
		{"one less than MaxSerial, open", histOf(calm(impl.MaxSerial-1, true, a), 0), "no: reset |", 1},
		{"a full base that creates", histOf(busy(9, "zz", impl.AcCreate, manyEntries(16)...), 0), "no:", 0},
	} {
		low := c.h.Base.Serial
		for _, serial := range []int{low, low + len(c.h.Events)/2, low + len(c.h.Events)} {
			x, _, _ := impl.Revert(c.h, serial, []int{1, 2})
			if got := revertedTo(c.h, serial, []int{1, 2}); got != c.want || x.Safe != c.safe {
				t.Errorf("%s, %d: %s, %d are safe", c.why, serial, got, x.Safe)
			}
		}
		if got := revertedTo(c.h, low-1, []int{1, 2}); got != "false" {
			t.Error(c.why, got)
		}
	}
}

// TestRevertWhereThereIsNoRoom: as in walks.
func TestRevertWhereThereIsNoRoom(t *testing.T) {
	gone := []impl.Event{evBegin, evIntent("b", impl.AcDelete), evGone("b"), evIntent("a", impl.AcDelete), evGone("a"), evEnd}
	for left, want := range map[int]string{
		1: "full: begin |", 2: "full: begin; intent a create |", 3: "done full: begin; intent a create |; done a {id = 5}", 4: "done full: begin; intent a create; done a {id = 5}; intent b create |",
		5: "done done: begin; intent a create; done a {id = 5}; intent b create |; done b {id = 6} needs a", 6: "done done: begin; intent a create; done a {id = 5}; intent b create; done b {id = 6} needs a; end |",
	} {
		h := usedUp(300-left-len(gone), "a {id = 1}", "b {id = 2} needs a")
		h.Events = append(h.Events, gone...)
		if got := revertedTo(h, 9, []int{5, 6}); got != want || len(h.Events) != 300-left {
			t.Errorf("%d left of %d: %s, wanted %s", left, len(h.Events), got, want)
		}
	}
	for left, want := range map[int]string{1: "full skip: begin |", 2: "full: begin; intent a create |", 3: "done full: begin; intent a create |; done a {id = 5}"} {
		h := late(left+len(gone), "a {id = 1}", "b {id = 2} needs a")
		h.Events = gone
		if got := revertedTo(h, h.Base.Serial, []int{5, 6}); got != want {
			t.Errorf("%d left: %s, wanted %s", left, got, want)
		}
	}
	// One more than MaxEntries is created once some are gone.
	h := histOf(calm(9, true, append(manyEntries(15), entry("zz", 1, vMap(""), ""))...), 0, evIntent("zz", impl.AcDelete), evGone("zz"), evIntent("zy", impl.AcCreate), evDone("zy", vMap(""), ""), evEnd)
	if got := revertedTo(h, 9, []int{5, 6}); got != "full done: begin; intent zy delete; gone zy; end |" {
		t.Error(got)
	}
}

// TestRevertToEachSerial: from the floor to the head's, also where something was under way, and what is forgotten can't be come back to.
func TestRevertToEachSerial(t *testing.T) {
	h := histOf(impl.State{}, 23, life()...)
	want := map[int]string{
		0: "done done done: begin; intent a delete; gone a; intent b delete; gone b; intent c[3] delete; gone c[3]; end |",
		2: "done done done: begin; intent a delete; gone a; intent b delete; gone b; intent c[3] delete; gone c[3]; end |",
		9: `done done: begin; intent a replace; done a {id = 7, k = 1, l = ["x", "y"]}; intent c[3] delete; gone c[3]; end |`, 23: `done done: begin; intent a replace; done a {id = 7, k = 1, l = ["x", "z"]}; intent c[3] replace; done c[3] {id = 8}; end |`,
	}
	for serial := range 24 {
		was, _ := impl.HistAt(h, serial)
		x, codes, ok := impl.Revert(h, serial, slices.Repeat([]int{77}, 9))
		now, _ := impl.HistHead(x)
		if !ok || strings.Trim(codesText(codes), "done ") != "" || barely(now) != barely(was) || now.Open {
			t.Errorf("%d: %s: %s, wanted %s", serial, codesText(codes), barely(now), barely(was))
		}
		if got := revertedTo(h, serial, []int{7, 8, 9}); want[serial] != "" && got != want[serial] {
			t.Errorf("%d: %s, wanted %s", serial, got, want[serial])
		}
		for floor := range 24 {
			less, _ := impl.HistCompact(h, floor)
			y, others, fine := impl.Revert(less, serial, slices.Repeat([]int{77}, 9))
			if fine != (floor <= serial) || fine && (!alike(others, codes) || !alike(y.Events[len(less.Events):], x.Events[len(h.Events):])) {
				t.Error(serial, floor, fine, codesText(others))
			}
		}
	}
}

// barely tells the entries of a state, but for id, what they need and what became of them.
func barely(s impl.State) string {
	var out []string
	for _, x := range s.Entries {
		out = append(out, string(x.Addr)+" "+textByRule(withByRule(x.Val, "id", nil)))
	}
	return strings.Join(out, "; ")
}

// resumedFrom tells what Resume tells.
func resumedFrom(h impl.History) string {
	x, ok := impl.Resume(h)
	switch {
	case !ok && alike(x, impl.History{}) && !alike(h, impl.History{}):
		return "false"
	case !goesOn(h, x) || !impl.HistOk(x):
		return "another history"
	case !ok && alike(x, h):
		return "as it was"
	case !ok:
		return "changed, and false"
	}
	return storyText(x, len(h.Events))
}

func TestResume(t *testing.T) {
	for why, h := range badHistories() {
		if x, ok := impl.Resume(h); ok || !alike(x, impl.History{}) {
			t.Error(why, ok)
		}
	}
	for why, h := range goodHistories() {
		head, _ := impl.HistHead(h)
		full := len(h.Events) == 300 || head.Serial == impl.MaxSerial || head.Act == impl.AcCreate && len(head.Entries) == 16
		want := "as it was"
		if head.Open && !full {
			want = "reset |"
		}
		if got := resumedFrom(h); got != want {
			t.Error(why, got)
		}
	}
	a, b := entry("a", 3, vMap("id k", vInt(1), vInt(5)), "b"), tainted("b", 2, vMap(""), "")
	for _, c := range []struct {
		why  string
		h    impl.History
		want impl.State
		ok   bool
	}{
		{"nothing at all", impl.History{}, impl.State{}, false},
		{"not open", histOf(calm(9, false, a, b), 0), calm(9, false, a, b), false},
		{"ended by an event", histOf(calm(9, true, a), 0, evEnd), calm(10, false, a), false},
		{"nothing under way", histOf(calm(9, true, a, b), 0), calm(10, false, a, b), true},
		{"begun by an event", histOf(calm(9, false, a), 0, evBegin), calm(11, false, a), true},
		{"create", histOf(busy(9, "c", impl.AcCreate, a), 0), calm(10, false, a, tainted("c", 10, vMap(""), "")), true},
		{"create the first", histOf(impl.State{}, 0, evBegin, evIntent("c", impl.AcCreate)), calm(3, false, tainted("c", 3, vMap(""), "")), true},
		{"update", histOf(busy(9, "a", impl.AcUpdate, a, b), 0), calm(10, false, tainted("a", 10, a.Val, "b"), b), true},
		{"replace", histOf(busy(9, "a", impl.AcReplace, a, b), 0), calm(10, false, tainted("a", 10, a.Val, "b"), b), true},
		{"delete", histOf(busy(9, "a", impl.AcDelete, a, b), 0), calm(10, false, tainted("a", 10, a.Val, "b"), b), true},
		{"replace what is tainted", histOf(busy(9, "b", impl.AcReplace, a, b), 0), calm(10, false, a, tainted("b", 10, b.Val, "")), true},
		{"one of MaxEntries", histOf(calm(9, true, manyEntries(16)...), 0), calm(10, false, manyEntries(16)...), true},
		{"MaxSerial", histOf(calm(impl.MaxSerial, true, a), 0), calm(impl.MaxSerial, true, a), false},
		{"the last serial", histOf(calm(impl.MaxSerial-1, true, a), 0), calm(impl.MaxSerial, false, a), true},
		{"a full base that creates", histOf(busy(9, "zz", impl.AcCreate, manyEntries(16)...), 0), busy(9, "zz", impl.AcCreate, manyEntries(16)...), false},
	} {
		x, ok := impl.Resume(c.h)
		head, _ := impl.HistHead(x)
		if ok != c.ok || !alike(head, c.want) || !goesOn(c.h, x) {
			t.Errorf("%s: %v, %v", c.why, head, ok)
		}
		// Once is enough.
		if y, again := impl.Resume(x); again || !alike(y, x) {
			t.Error(c.why, "is ended twice")
		}
	}
}

// TestResumeAndWhatIsSafe: all behind an EvReset; where none is written, what was.
func TestResumeAndWhatIsSafe(t *testing.T) {
	for safe := range 6 {
		for n, want := range map[int]int{5: 6, 6: safe} {
			x, _ := impl.Resume(histOf(impl.State{}, safe, turnsOf(n)...))
			if x.Safe != want || len(x.Events) != 6 {
				t.Error(safe, n, x.Safe)
			}
		}
	}
	for _, h := range []impl.History{histOf(calm(1, true), 7, turnsOf(301)[1:]...), histOf(calm(1, true), 7, append(turnsOf(300)[1:], evBegin)...), histOf(impl.State{}, 7, turnsOf(300)...)} {
		if x, ok := impl.Resume(h); ok || !alike(x, h) {
			t.Error(x.Safe, ok)
		}
	}
	if x, ok := impl.Resume(histOf(impl.State{}, 7, turnsOf(299)...)); !ok || x.Safe != 300 {
		t.Error(x.Safe, ok)
	}
}
