package tests

import (
	"strconv"
	"strings"
	"testing"

	"loop.example/g00407/impl"
)

// usedUp is a history of n events, none of them Safe, that is not open and has these entries.
func usedUp(n int, l ...string) impl.History {
	s := there(l...)
	if n%2 == 0 {
		return histOf(s, 0, turnsOf(n)...)
	}
	s.Open = true
	return histOf(s, 0, turnsOf(n + 1)[1:]...)
}

// late is a history without events that leaves so many serials.
func late(left int, l ...string) impl.History {
	s := there(l...)
	s.Serial = impl.MaxSerial - left
	return histOf(s, 0)
}

// fullRow has what comes of a configuration and answers where so many events fit.
type fullRow struct {
	left    int
	text    string
	answers string
	want    string
}

// TestWalkWhereThereAreMaxEvents: what can't be written is full, and the end.
func TestWalkWhereThereAreMaxEvents(t *testing.T) {
	two := "res a { } res b { x = a.id }"
	for _, c := range []fullRow{
		// EvBegin alone.
		{1, "res n { }", "", ": begin |"}, {1, two, "5 6", "full: begin |"}, {1, two, "", "full: begin |"}, {1, two, "0", "full: begin |"},
		// And EvIntent: the next answer can't be written, whichever it is.
		{2, two, "5 6", "full: begin; intent a create |"}, {2, two, "0", "full: begin; intent a create |"}, {2, two, "", "stop: begin; intent a create |"}, {2, "res n { x = 1 }", "7", "full: begin; intent n update |"}, {2, "", "7", "full: begin; intent n delete |"}, {2, "res n { }", "", ": begin; end |"},
		// And one more, which is not Safe yet.
		{3, two, "5 6", "done full: begin; intent a create |; done a {id = 5}"}, {3, "res a { } res n { }", "5", "done: begin; intent a create |; done a {id = 5}"}, {3, "res a { } res n { }", "0", "fail: begin; intent a create |; fail a"}, {3, two, "0 6", "fail skip full: begin; intent a create |; fail a"}, {3, two, "5", "done full: begin; intent a create |; done a {id = 5}"}, {3, "", "7", "done: begin; intent n delete |; gone n"},
		{3, "res n { x = 1 }", "7", "done: begin; intent n update |; done n {id = 1, x = 1}"}, {3, "res n { kind = 1 }", "7", "done: begin; intent n replace |; done n {id = 7, kind = 1}"}, {3, "res n { kind = 1 }", "0", "fail: begin; intent n replace |; fail n"},
		// And EvEnd, or the next EvIntent.
		{4, "res a { } res n { }", "5", "done: begin; intent a create; done a {id = 5}; end |"}, {4, two, "5 6", "done full: begin; intent a create; done a {id = 5}; intent b create |"}, {4, two, "5", "done stop: begin; intent a create; done a {id = 5}; intent b create |"}, {4, two, "5 0", "done full: begin; intent a create; done a {id = 5}; intent b create |"},
		{5, two, "5 6", "done done full: begin; intent a create; done a {id = 5}; intent b create |; done b {id = 6, x = 5} needs a"}, {6, two, "5 6 7", "done done full: begin; intent a create; done a {id = 5}; intent b create; done b {id = 6, x = 5} needs a; intent n delete |"}, {7, two, "5 6 7", "done done done: begin; intent a create; done a {id = 5}; intent b create; done b {id = 6, x = 5} needs a; intent n delete |; gone n"}, {8, two, "5 6 7", "done done done: begin; intent a create; done a {id = 5}; intent b create; done b {id = 6, x = 5} needs a; intent n delete; gone n; end |"},
		// What is skipped, or has no value, counts ahead of it, and is not the end.
		{3, "res a { } res b { x = !a.id } res c { x = b } res d { }", "5 6", "done value skip full: begin; intent a create |; done a {id = 5}"}, {4, "res a { } res b { x = !a.id } res n { }", "5 6", "done value: begin; intent a create; done a {id = 5}; end |"}, {3, "res a { } res b { x = !a.id } res n { }", "5 6", "done value: begin; intent a create |; done a {id = 5}"},
	} {
		if got := walkedOn(usedUp(300-c.left, "n {id = 1}"), configFrom(c.text), numsOf(c.answers)); got != c.want {
			t.Errorf("%d left, %s, %s: %s, wanted %s", c.left, c.text, c.answers, got, c.want)
		}
		// What stays plays no part.
		if got := walkedOn(usedUp(300-c.left, "n {id = 1}", "o {}"), configFrom(c.text+" res o { }"), numsOf(c.answers)); got != c.want {
			t.Errorf("%d left, %s, %s: %s, wanted %s", c.left, c.text, c.answers, got, c.want)
		}
	}
	// What goes is skipped ahead of all where it is needed.
	if got := walkedOn(usedUp(299, "a {}", "b {} needs a", "c {}"), configFrom("res b { }"), []int{5}); got != "skip full: begin |" {
		t.Error(got)
	}
	// Behind an EvReset there is one less.
	for left, want := range map[int]string{2: "full: reset; begin |", 3: "full: reset; begin; intent a create |", 4: "done full: reset; begin; intent a create |; done a {id = 5}", 5: "done full: reset; begin; intent a create; done a {id = 5}; intent b create |"} {
		h := usedUp(299-left, "n {id = 1}")
		h.Events = append(h.Events, evBegin)
		if got := walkedOn(h, configFrom(two+" res n { }"), []int{5, 6}); got != want {
			t.Errorf("%d left: %s, wanted %s", left, got, want)
		}
	}
}

// TestWalkWhereThereIsMaxSerial: what can't be written is full; without EvIntent the walk goes on all the same.
func TestWalkWhereThereIsMaxSerial(t *testing.T) {
	three := "res a { } res b { x = a.id } res c { }"
	for _, c := range []fullRow{
		{1, "res n { }", "", ": begin |"}, {1, three, "5 6", "full skip full full: begin |"}, {1, three, "", "full skip full full: begin |"}, {1, "", "5", "full: begin |"},
		{2, three, "5 6", "full: begin; intent a create |"}, {2, three, "0", "full: begin; intent a create |"}, {2, three, "", "stop: begin; intent a create |"}, {2, "", "0", "full: begin; intent n delete |"}, {2, "res n { }", "", ": begin; end |"},
		{3, three, "5 6", "done full full full: begin; intent a create |; done a {id = 5}"}, {3, three, "0 6", "fail skip full full: begin; intent a create |; fail a"}, {3, three, "5", "done full full full: begin; intent a create |; done a {id = 5}"}, {3, "", "5", "done: begin; intent n delete |; gone n"},
		{4, three, "5 6", "done full: begin; intent a create; done a {id = 5}; intent b create |"}, {4, "", "5", "done: begin; intent n delete; gone n; end |"}, {5, three, "5 6", "done done full full: begin; intent a create; done a {id = 5}; intent b create |; done b {id = 6, x = 5} needs a"},
		{3, "res a { } res b { x = !a.id } res c { }", "5 6", "done value full full: begin; intent a create |; done a {id = 5}"},
	} {
		if got := walkedOn(late(c.left, "n {id = 1}"), configFrom(c.text), numsOf(c.answers)); got != c.want {
			t.Errorf("%d left, %s, %s: %s, wanted %s", c.left, c.text, c.answers, got, c.want)
		}
	}
	// By events, the base being lower; both limits at once.
	h := late(12, "n {id = 1}")
	h.Events = turnsOf(10)
	if got := walkedOn(h, configFrom(three), []int{5}); got != "full: begin; intent a create |" {
		t.Error(got)
	}
	h = late(301, "n {id = 1}")
	h.Events = turnsOf(298)
	if got := walkedOn(h, configFrom(three), []int{5}); got != "full: begin; intent a create |" {
		t.Error(got)
	}
	h = late(299, "n {id = 1}")
	h.Events = turnsOf(298)
	if got := walkedOn(h, configFrom(three), []int{5}); got != "full skip full full: begin |" {
		t.Error(got)
	}
	open := late(2, "n {id = 1}")
	open.Base.Open = true
	if got := walkedOn(open, configFrom(three), []int{5}); got != "full skip full full: reset; begin |" {
		t.Error(got)
	}
}

// TestWalkWhereThereAreMaxEntries: no more can be created until some are gone, and the walk goes on.
func TestWalkWhereThereAreMaxEntries(t *testing.T) {
	deletes := func(n int) string { return strings.Repeat(" done", n) }
	full := calm(9, false, manyEntries(16)...)
	_, codes, _ := impl.Walk(histOf(full, 0), configFrom("res xa { } res xb { x = xa.id } res xc { }"), []int{1, 2, 3, 4, 5, 6, 7, 8, 9, 10, 11, 12, 13, 14, 15, 16, 17, 18})
	if got := codesText(codes); got != "full skip full"+deletes(16) {
		t.Error(got)
	}
	h, codes, _ := impl.Walk(histOf(full, 0), configFrom("res aa { n = 5 } res xa { } res xb { x = xa.id }"), []int{1, 0, 3})
	if got := codesText(codes); got != "done full skip fail done stop" || !strings.HasPrefix(storyText(h, 0), "begin; intent aa update; done aa {id = 1, n = 5}; intent ab delete; fail ab; intent ac delete; gone ac; intent ad delete") {
		t.Error(got, storyText(h, 0))
	}
	// One that is left room for is created, and what is changed or made anew needs none.
	s := calm(9, false, append(manyEntries(14), entry("zy", 1, vMap(""), ""))...)
	h, codes, _ = impl.Walk(histOf(s, 0), configFrom("res xa { } res xb { } res xc { x = xb.id } res zy { kind = 1 }"), []int{1, 2, 3, 4})
	if got := codesText(codes); got != "done full skip done done done stop" || !strings.HasPrefix(storyText(h, 0), "begin; intent xa create; done xa {id = 1}; intent zy replace; done zy {id = 2, kind = 1}; intent aa delete; gone aa") {
		t.Error(got, storyText(h, 0))
	}
	// A creation that failed leaves the room.
	_, codes, _ = impl.Walk(histOf(calm(9, false, manyEntries(15)...), 0), configFrom("res xa { } res xb { } res xc { }"), []int{0, 2})
	if got := codesText(codes); got != "fail done full stop" {
		t.Error(got)
	}
	// The next walk has room for them.
	h, _, _ = impl.Walk(histOf(full, 0), configFrom("res xa { } res xb { x = xa.id }"), numsOf(strings.Repeat("7 ", 30)))
	if got := walkedOn(h, configFrom("res xa { } res xb { x = xa.id }"), []int{5, 6}); got != "done done: begin; intent xa create; done xa {id = 5}; intent xb create; done xb {id = 6, x = 5} needs xa; end |" {
		t.Error(got)
	}
	if s, _ := impl.HistHead(h); len(s.Entries) != 0 || s.Open {
		t.Error(statesText(s))
	}
	// As many as may be, from nothing.
	h, codes, _ = impl.Walk(impl.History{}, configFrom(manyOnes(16)), numsOf(strings.Repeat("7 ", 16)))
	if s, _ := impl.HistHead(h); codesText(codes) != strings.TrimSpace(deletes(16)) || len(s.Entries) != 16 || s.Open {
		t.Error(codesText(codes), len(s.Entries))
	}
}

// safeAt tells how much is Safe of a walk that began behind the first n events, of which safe were, once there were so many.
func safeAt(h impl.History, n int, safe int, there int) int {
	for i := there; i > n; i-- {
		switch h.Events[i-1].Kind {
		case impl.EvReset, impl.EvBegin, impl.EvIntent, impl.EvEnd:
			return i
		}
	}
	return safe
}

// TestWhatIsSafeAtEachPlace: behind EvReset, EvBegin, EvIntent and EvEnd all is Safe, behind the others not yet; asked by leaving no room behind each.
func TestWhatIsSafeAtEachPlace(t *testing.T) {
	l := configFrom("res a { x = 2 } res b { y = a.x } res c { y = b.id } res d { kind = 2 } res e { }")
	answers := numsOf("5 0 6 7 8 9")
	begin := []string{"a {id = 1, x = 1}", "b {id = 2, y = 1} needs a", "d {id = 3, kind = 1}", "o {id = 4}", "p {} needs o"}
	kinds := map[int]int{}
	for _, open := range []bool{false, true} {
		all := histOf(there(begin...), 0)
		all.Base.Open = open
		whole, _, _ := impl.Walk(all, l, answers)
		for left := 1; left <= len(whole.Events); left++ {
			used := 300 - left
			h := usedUp(used, begin...)
			if open {
				h = usedUp(used-1, begin...)
				h.Events = append(h.Events, evBegin)
			}
			for _, safe := range []int{0, used / 2, used} {
				h.Safe = safe
				x, _, code := impl.Walk(h, l, answers)
				if code == impl.CfWell && !alike(x.Events[used:], whole.Events[:left]) || code != impl.CfWell && left > 1 {
					t.Fatal(left, code, storyText(x, used))
				}
				if want := safeAt(x, used, safe, 300); x.Safe != want {
					t.Errorf("%d left: %d are safe, wanted %d", left, x.Safe, want)
				}
				kinds[x.Events[299].Kind]++
				leaves(t, h, x)
			}
		}
	}
	for kind := impl.EvBegin; kind <= impl.EvReset; kind++ {
		if kinds[kind] < 3 {
			t.Error(kinds, "a kind lacks")
		}
	}
}

// leaves fails where a crash of x, which went on from h, takes what is Safe, or something under way is not told behind it.
func leaves(t *testing.T, h impl.History, x impl.History) {
	t.Helper()
	last := x.Events[len(x.Events)-1]
	left := impl.HistCrash(x, 0)
	if !goesOn(histOf(h.Base, 0, h.Events[:h.Safe]...), left) || left.Safe != len(left.Events) {
		t.Fatal(storyText(left, 0))
	}
	if last.Kind != impl.EvDone && last.Kind != impl.EvGone && last.Kind != impl.EvFail {
		if len(left.Events) != len(x.Events) {
			t.Fatal(eventTextByRule(last), "is not safe")
		}
		return
	}
	// What was begun is known to be under way, and with one event more it is as it was.
	head, _ := impl.HistHead(left)
	if len(left.Events) != len(x.Events)-1 || string(head.Pending) != string(last.Addr) || !alike(impl.HistCrash(x, 1).Events, x.Events) {
		t.Fatal(eventTextByRule(last), "is safe, or what it ends is not told")
	}
}

// TestWalksBehindCrashes: what was lost is done again, since nobody knows what became of it.
func TestWalksBehindCrashes(t *testing.T) {
	l := configFrom("res a { x = 1 } res b { y = a.id }")
	for _, c := range []struct {
		last  string
		left  int
		again string
	}{
		{"begin", 1, "done done: reset; begin; intent a create; done a {id = 8, x = 1}; intent b create; done b {id = 9, y = 8} needs a; end |"},
		{"intent a create", 2, "done done: reset; begin; intent a replace; done a {id = 8, x = 1}; intent b create; done b {id = 9, y = 8} needs a; end |"},
		{"done a {id = 5, x = 1}", 3, "done done: reset; begin; intent a replace; done a {id = 8, x = 1}; intent b create; done b {id = 9, y = 8} needs a; end |"},
		{"intent b create", 4, "done: reset; begin; intent b replace; done b {id = 8, y = 5} needs a; end |"},
		{"done b {id = 6, y = 5}", 5, "done: reset; begin; intent b replace; done b {id = 8, y = 5} needs a; end |"},
		{"end", 6, ": begin; end |"},
	} {
		h := usedUp(300 - c.left)
		x, _, _ := impl.Walk(h, l, []int{5, 6})
		if got := eventTextByRule(x.Events[299]); got != c.last {
			t.Fatal(got, c.last)
		}
		// Forgetting makes room for what is to come.
		crashed := impl.HistCrash(x, 0)
		crashed, ok := impl.HistCompact(crashed, crashed.Base.Serial+crashed.Safe)
		if got := walkedOn(crashed, l, []int{8, 9}); !ok || got != c.again {
			t.Errorf("behind %s: %s, wanted %s", c.last, got, c.again)
		}
		if c.last == "end" {
			continue
		}
		resumed, ended := impl.Resume(crashed)
		if !ended || walkedOn(resumed, l, []int{8, 9}) != strings.Replace(c.again, "reset; ", "", 1) {
			t.Error(strconv.Quote(c.last), walkedOn(resumed, l, []int{8, 9}))
		}
	}
}
