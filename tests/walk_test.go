package tests

import (
	"math"
	"slices"
	"strconv"
	"strings"
	"testing"

	"loop.example/g00407/impl"
)

// walkWords are the codes of acts as the tables below tell them.
var walkWords = []string{impl.WkSkip: "skip", impl.WkDone: "done", impl.WkFail: "fail", impl.WkValue: "value", impl.WkStop: "stop", impl.WkFull: "full"}

func codesText(codes []int) string {
	var out []string
	for _, code := range codes {
		if code < 0 || code >= len(walkWords) {
			return "no code: " + strconv.Itoa(code)
		}
		out = append(out, walkWords[code])
	}
	return strings.Join(out, " ")
}

// storyText tells the events of h behind the first n, with what they need; a bar stands behind what is Safe, if that is here.
func storyText(h impl.History, n int) string {
	var out []string
	for i, e := range h.Events[n:] {
		text := eventTextByRule(e)
		if len(e.Deps) > 0 {
			text += " needs " + texts(e.Deps)
		}
		if n+i+1 == h.Safe {
			text += " |"
		}
		out = append(out, text)
	}
	return strings.Join(out, "; ")
}

// goesOn tells whether h is how x begins, as far as what is Safe.
func goesOn(h impl.History, x impl.History) bool {
	return len(x.Events) >= len(h.Events) && x.Safe >= h.Safe && alike(h.Base, x.Base) && alike(h.Events, x.Events[:len(h.Events)])
}

// walkedOn tells what Walk tells: the codes, or the word of its own code, and what was written.
func walkedOn(h impl.History, l []impl.Item, answers []int) string {
	x, codes, code := impl.Walk(h, l, answers)
	switch {
	case code == impl.CfForm && alike(x, impl.History{}) && len(codes) == 0:
		return "form"
	case code == impl.CfForm || !goesOn(h, x):
		return "another history"
	case !impl.HistOk(x):
		return "no history"
	case code == impl.CfWell:
		return strings.TrimSpace(codesText(codes) + ": " + storyText(x, len(h.Events)))
	case len(codes) > 0:
		return "codes beside a code"
	}
	return strings.TrimSpace(strings.Fields(flawText(code, 0))[0] + ": " + storyText(x, len(h.Events)))
}

// walks fails where what comes of a state, a configuration and answers is not what stands behind these.
func walks(t *testing.T, s impl.State, table [][3]string) {
	t.Helper()
	for _, c := range table {
		if got := walkedOn(histOf(s, 0), configFrom(c[0]), numsOf(c[1])); got != c[2] {
			t.Errorf("%s, %s:\n%s, wanted\n%s", c[0], c[1], got, c[2])
		}
	}
}

func TestWalkCodes(t *testing.T) {
	got := []int{impl.WkSkip, impl.WkDone, impl.WkFail, impl.WkValue, impl.WkStop, impl.WkFull}
	if !slices.Equal(got, []int{0, 1, 2, 3, 4, 5}) {
		t.Error(got)
	}
}

// TestWalksOfWhatMayNotBe: CfForm counts ahead of all else.
func TestWalksOfWhatMayNotBe(t *testing.T) {
	fine, l := histOf(impl.State{}, 3, life()...), configFrom("res a { k = 1 } res web { x = a.id }")
	for why, h := range badHistories() {
		for _, other := range [][]impl.Item{l, nil, configFrom("res a { x = a }")} {
			if got := walkedOn(h, other, []int{1, 2}); got != "form" {
				t.Error(why, got)
			}
		}
	}
	for why, other := range badConfigs() {
		for _, h := range []impl.History{{}, fine, histOf(busy(9, "a", impl.AcCreate), 0), histOf(calm(impl.MaxSerial, true), 0)} {
			if got := walkedOn(h, other, []int{1, 2}); got != "form" {
				t.Error(why, got)
			}
		}
	}
	for why, h := range goodHistories() {
		if got := walkedOn(h, l, []int{1, 2, 3}); got == "form" {
			t.Error(why, got)
		}
	}
}

// answerRows are answers that may be, and ones that may not.
func answerRows() (good [][]int, bad [][]int) {
	some := func(n int, last ...int) []int {
		var out []int
		for i := range n {
			out = append(out, i*7)
		}
		return append(out, last...)
	}
	good = [][]int{nil, {}, {0}, {1}, {1000000}, {0, 1000000, 0}, some(100), some(99, 0), some(99, 1000000), slices.Repeat([]int{0}, 100), slices.Repeat([]int{1000000}, 100)}
	for _, wrong := range []int{-1, 1000001, -1000000, math.MinInt, math.MaxInt} {
		bad = append(bad, []int{wrong}, []int{wrong, 1}, []int{1, wrong}, []int{0, 0, wrong, 5}, some(99, wrong), append([]int{wrong}, some(99)...))
	}
	bad = append(bad, some(101), some(100, 0), some(100, 1000000), slices.Repeat([]int{0}, 101), some(5000))
	return good, bad
}

// TestAnswersThatMayBe: as many and as great as they may be, and what is beyond that, also where no act asks for it.
func TestAnswersThatMayBe(t *testing.T) {
	good, bad := answerRows()
	for _, text := range []string{"", "res a { }", "res a { x = a }", manyOnes(16)} {
		for _, h := range []impl.History{{}, histOf(there("a {id = 1}"), 0), histOf(impl.State{}, 9, life()...), histOf(impl.State{}, 0, turnsOf(300)...)} {
			for _, answers := range good {
				if got := walkedOn(h, configFrom(text), answers); got == "form" {
					t.Error(text, answers, got)
				}
			}
			for _, answers := range bad {
				if got := walkedOn(h, configFrom(text), answers); got != "form" {
					t.Error(text, answers, got)
				}
				if x, codes, ok := impl.Revert(h, 0, answers); ok || len(codes) > 0 || !alike(x, impl.History{}) {
					t.Error(text, answers, codes, ok)
				}
			}
		}
	}
	walks(t, impl.State{}, [][3]string{
		{"res a { }", "1000000", "done: begin; intent a create; done a {id = 1000000}; end |"},
		{"res a { }", "1", "done: begin; intent a create; done a {id = 1}; end |"},
	})
}

// flawedPlans are configurations of which there is no plan for a state with an entry called a, with the words of their codes.
var flawedPlans = [][2]string{
	{"res a { x = a }", "ring"}, {"local l = $l res a { }", "ring"}, {"res a { x = foo() }", "value"}, {"local l = {}.x", "value"}, {"res a { id = 1 }", "uses"}, {"local l = web", "uses"}, {"res a count 6 { }", "many"},
	{"res a { x = " + nulls(39) + " }", "big"}, {manyOnes(17), "big"}, {"res b { x = none }", "lack"}, {"out o = $none", "lack"},
}

// TestWalksWithoutAPlan: the history as it is then, with the EvReset that was written, and nothing is begun.
func TestWalksWithoutAPlan(t *testing.T) {
	for _, c := range flawedPlans {
		l := configFrom(c[0])
		for h, want := range map[string]impl.History{
			":":         histOf(calm(9, false, entry("a", 1, vMap(""), "")), 0),
			": reset |": histOf(calm(9, true, entry("a", 1, vMap(""), "")), 0),
		} {
			if got := walkedOn(want, l, []int{1, 2, 3}); got != c[1]+h {
				t.Errorf("%s: %s, wanted %s", c[0], got, c[1]+h)
			}
		}
		// What is Safe stays as it is, and is all behind an EvReset.
		x, _, _ := impl.Walk(histOf(impl.State{}, 1, turnsOf(4)...), l, nil)
		y, _, _ := impl.Walk(histOf(impl.State{}, 1, turnsOf(5)...), l, nil)
		if x.Safe != 1 || len(x.Events) != 4 || y.Safe != 6 || len(y.Events) != 6 {
			t.Error(c[0], storyText(x, 0), storyText(y, 0))
		}
		// It counts ahead of an EvBegin that can't be written.
		for _, h := range []impl.History{histOf(impl.State{}, 7, turnsOf(300)...), histOf(calm(impl.MaxSerial, false), 0), histOf(calm(impl.MaxSerial, true), 0), histOf(impl.State{}, 7, append(turnsOf(299), evIntent("a", impl.AcCreate))...)} {
			if got := walkedOn(h, l, nil); got != c[1]+":" {
				t.Errorf("%s: %s, wanted %s:", c[0], got, c[1])
			}
		}
	}
}

// TestWalksThatCantBegin: there is no room for EvBegin, or no serial, perhaps since EvReset took the last one.
func TestWalksThatCantBegin(t *testing.T) {
	a := entry("a", 1, vMap(""), "")
	for _, text := range []string{"", "res a { }", "res a { x = 1 } res b { }"} {
		l := configFrom(text)
		for _, c := range []struct {
			why  string
			h    impl.History
			want string
			safe int
		}{
			{"MaxEvents", histOf(impl.State{}, 4, turnsOf(300)...), "big:", 4},
			{"MaxEvents, the base being open", histOf(calm(4, true, a), 300, turnsOf(301)[1:]...), "big:", 300},
			{"MaxEvents, open", histOf(calm(4, true, a), 4, append(turnsOf(300)[1:], evBegin)...), "big:", 4},
			{"one less than MaxEvents, open", histOf(impl.State{}, 4, turnsOf(299)...), "big: reset |", 300},
			{"one less than MaxEvents, something under way", histOf(impl.State{}, 4, append(turnsOf(297), evIntent("a", impl.AcCreate), evFail("a"))...), "big: reset |", 300},
			{"MaxSerial", histOf(calm(impl.MaxSerial, false, a), 0), "big:", 0},
			{"MaxSerial, open", histOf(calm(impl.MaxSerial, true, a), 0), "big:", 0},
			{"MaxSerial, something under way", histOf(busy(impl.MaxSerial-1, "a", impl.AcUpdate, a), 0, evDone("a", vMap(""), "")), "big:", 0},
			{"MaxSerial by events", histOf(calm(impl.MaxSerial-2, false, a), 1, evBegin, evEnd), "big:", 1},
			{"one less than MaxSerial, open", histOf(calm(impl.MaxSerial-1, true, a), 0), "big: reset |", 1},
			{"a full base that creates", histOf(busy(9, "zz", impl.AcCreate, manyEntries(16)...), 0), "big:", 0},
		} {
			x, _, _ := impl.Walk(c.h, l, []int{1, 2})
			if got := walkedOn(c.h, l, []int{1, 2}); got != c.want || x.Safe != c.safe {
				t.Errorf("%s, %s: %s, %d are safe", c.why, text, got, x.Safe)
			}
		}
		if got := walkedOn(histOf(impl.State{}, 0, turnsOf(298)...), l, nil); !strings.HasPrefix(strings.TrimLeft(got, "stopful "), ": begin") {
			t.Error(text, got)
		}
	}
}

// TestWalksFromAnOpenHead: EvReset is written ahead of all, and the plan is made of what is there then.
func TestWalksFromAnOpenHead(t *testing.T) {
	a, b := "a {id = 1, x = 1}", "b {id = 2} needs a"
	open := there(a, b)
	open.Open = true
	walks(t, open, [][3]string{
		{"res a { x = 1 } res b { }", "", ": reset; begin; end |"},
		{"res a { x = 2 } res b { }", "5", "done: reset; begin; intent a update; done a {id = 1, x = 2}; end |"},
		{"res c { }", "", "stop: reset; begin; intent c create |"},
	})
	for act, want := range map[int]string{
		impl.AcUpdate: "done done: reset; begin; intent a replace; done a {id = 7, x = 1}; intent b update; done b {id = 2, y = 7} needs a; end |", impl.AcReplace: "done done: reset; begin; intent a replace; done a {id = 7, x = 1}; intent b update; done b {id = 2, y = 7} needs a; end |", impl.AcDelete: "done done: reset; begin; intent a replace; done a {id = 7, x = 1}; intent b update; done b {id = 2, y = 7} needs a; end |",
	} {
		s := there(a, b)
		s.Open, s.Pending, s.Act = true, []byte("a"), act
		walks(t, s, [][3]string{{"res a { x = 1 } res b { y = a.id }", "7 8", want}})
	}
	// What was to be created may be there: it is made anew, or goes.
	s := there(a)
	s.Open, s.Pending, s.Act = true, []byte("c"), impl.AcCreate
	walks(t, s, [][3]string{
		{"res a { x = 1 } res c { }", "7", "done: reset; begin; intent c replace; done c {id = 7}; end |"},
		{"res a { x = 1 }", "7", "done: reset; begin; intent c delete; gone c; end |"},
		{"res a { x = 1 } res c { kind = a.id }", "0", "fail: reset; begin; intent c replace; fail c; end |"},
	})
	// Behind events, some of which are not Safe yet.
	h := histOf(impl.State{}, 2, evBegin, evIntent("a", impl.AcCreate), evDone("a", vMap("id", vInt(3)), ""), evIntent("b", impl.AcCreate))
	if got := walkedOn(h, configFrom("res a { } res b { x = a.id }"), []int{9}); got != "done: reset; begin; intent b replace; done b {id = 9, x = 3} needs a; end |" {
		t.Error(got)
	}
}

// TestWalkActByAct: what each answer makes of each act.
func TestWalkActByAct(t *testing.T) {
	walks(t, impl.State{}, [][3]string{
		{"res a { }", "7", "done: begin; intent a create; done a {id = 7}; end |"},
		{"res a { }", "0", "fail: begin; intent a create; fail a; end |"},
		{"res a { }", "", "stop: begin; intent a create |"},
		{"res a { kind = 1 x = [2] }", "7", "done: begin; intent a create; done a {id = 7, kind = 1, x = [2]}; end |"},
		{"local n = 4 res a count 2 { x = index + $n }", "7 8", "done done: begin; intent a[0] create; done a[0] {id = 7, x = 4}; intent a[1] create; done a[1] {id = 8, x = 5}; end |"},
		{`res a each {p = 1, q = "t"} { x = key y = val }`, "7 7", `done done: begin; intent a["p"] create; done a["p"] {id = 7, x = "p", y = 1}; intent a["q"] create; done a["q"] {id = 7, x = "q", y = "t"}; end |`},
	})
	walks(t, there("a {id = 3, x = 1}"), [][3]string{
		{"res a { x = 2 }", "7", "done: begin; intent a update; done a {id = 3, x = 2}; end |"},
		{"res a { x = 2 }", "0", "fail: begin; intent a update; fail a; end |"},
		{"res a { x = 2 }", "", "stop: begin; intent a update |"},
		{"res a { kind = 2 }", "7", "done: begin; intent a replace; done a {id = 7, kind = 2}; end |"},
		{"res a { kind = 2 }", "0", "fail: begin; intent a replace; fail a; end |"},
		{"res a { kind = 2 }", "", "stop: begin; intent a replace |"},
		{"", "7", "done: begin; intent a delete; gone a; end |"},
		{"", "0", "fail: begin; intent a delete; fail a; end |"},
		{"", "", "stop: begin; intent a delete |"},
	})
	walks(t, there("a {x = 1}", "!b {id = 4, x = 1}"), [][3]string{
		// An update takes the answer where there is no id yet; what is tainted is made anew.
		{"res a { x = 2 } res b { x = 1 }", "7 8", "done done: begin; intent a update; done a {id = 7, x = 2}; intent b replace; done b {id = 8, x = 1}; end |"},
		{"res a { } res b { }", "7 0", "done fail: begin; intent a update; done a {id = 7}; intent b replace; fail b; end |"},
	})
	walks(t, there(`a {id = {k = "i"}, x = 1}`, `b {id = "i", x = 1}`, "c {id = null, x = 1}", "d {id = 0}"), [][3]string{
		// The id that is there stays, whatever it is.
		{"res a { } res b { } res c { } res d { x = c.id }", "5 6 7 8", `done done done done: begin; intent a update; done a {id = {k = "i"}}; intent b update; done b {id = "i"}; intent c update; done c {id = null}; intent d update; done d {id = 0, x = null} needs c; end |`},
	})
}

// TestWalkTakesWhatIsThereNow: attributes are reckoned when their turn comes, not when the plan was made.
func TestWalkTakesWhatIsThereNow(t *testing.T) {
	walks(t, impl.State{}, [][3]string{
		{"res web { zone = db.id } res db { kind = 1 }", "5 6", "done done: begin; intent db create; done db {id = 5, kind = 1}; intent web create; done web {id = 6, zone = 5} needs db; end |"},
		{"res a { x = b.x + 1 } res b { x = c.id + 1 } res c { }", "5 6 7", "done done done: begin; intent c create; done c {id = 5}; intent b create; done b {id = 6, x = 6} needs c; intent a create; done a {id = 7, x = 7} needs b; end |"},
		{"res a { x = b == {id = 5} y = b z = len(b) }  res b { }", "5 6", "done done: begin; intent b create; done b {id = 5}; intent a create; done a {id = 6, x = true, y = {id = 5}, z = 1} needs b; end |"},
		{"res a { x = c[1].id y = c } res c count 2 { }", "5 6 7", "done done done: begin; intent c[0] create; done c[0] {id = 5}; intent c[1] create; done c[1] {id = 6}; intent a create; done a {id = 7, x = 6, y = [{id = 5}, {id = 6}]} needs c[0] c[1]; end |"},
		{"res a { x = m.q.id y = m } res m each {p = 1, q = 2} { v = val }", "5 6 7", `done done done: begin; intent m["p"] create; done m["p"] {id = 5, v = 1}; intent m["q"] create; done m["q"] {id = 6, v = 2}; intent a create; done a {id = 7, x = 6, y = {p = {id = 5, v = 1}, q = {id = 6, v = 2}}} needs m["p"] m["q"]; end |`},
		{"res a { x = c y = m } res c count 0 { } res m each {} { }", "5", "done: begin; intent a create; done a {id = 5, x = [], y = {}}; end |"},
		{"res a count 2 { x = b.id + index } res b { }", "5 6 7", "done done done: begin; intent b create; done b {id = 5}; intent a[0] create; done a[0] {id = 6, x = 5} needs b; intent a[1] create; done a[1] {id = 7, x = 6} needs b; end |"},
	})
	walks(t, there("a {id = 1, x = 9}", "b {id = 2}", "!c {id = 3}"), [][3]string{
		// Of what stays, of what is changed, of what is made anew.
		{"res a { x = b.id } res b { } res c { }", "5 6", "done done: begin; intent a update; done a {id = 1, x = 2} needs b; intent c replace; done c {id = 6}; end |"},
		{"res a { x = b.id y = b.z } res b { z = 4 } res c { }", "5 6 7", "done done done: begin; intent b update; done b {id = 2, z = 4}; intent a update; done a {id = 1, x = 2, y = 4} needs b; intent c replace; done c {id = 7}; end |"},
		{"res a { x = c.id } res b { } res c { }", "5 6", "done done: begin; intent c replace; done c {id = 5}; intent a update; done a {id = 1, x = 5} needs c; end |"},
		// What turns out to be just as it was is done all the same, as planned.
		{"res a { x = c.id } res b { } res c { }", "9 6", "done done: begin; intent c replace; done c {id = 9}; intent a update; done a {id = 1, x = 9} needs c; end |"},
		// A kind that was not known is made anew, even if it turns out to be alike.
		{"res a { kind = c.id } res b { } res c { }", "5 6", "done done: begin; intent c replace; done c {id = 5}; intent a replace; done a {id = 6, kind = 5} needs c; end |"},
	})
	// Deps are those of the act: those that were are gone with it.
	walks(t, there("a {id = 1, x = 1} needs b c", "b {id = 2}", "c {id = 3}"), [][3]string{
		{"res a { x = c.id } res b { } res c { }", "5", "done: begin; intent a update; done a {id = 1, x = 3} needs c; end |"},
		{"res a { x = 2 } res b { } res c { }", "5", "done: begin; intent a update; done a {id = 1, x = 2}; end |"},
	})
	some := " res m count 5 { } res n count 3 { }"
	x, codes, _ := impl.Walk(impl.History{}, configFrom("res a { x = len(m) y = len(n) }"+some), slices.Repeat([]int{4}, 9))
	if s, _ := impl.HistHead(x); codesText(codes) != strings.TrimSpace(strings.Repeat("done ", 9)) || texts(s.Entries[0].Deps) != "m[0] m[1] m[2] m[3] m[4] n[0] n[1] n[2]" {
		t.Error(codesText(codes), storyText(x, 0))
	}
}

// TestWalkSkipsWhatNeedsWhatFailed: and what needs that again; all others are done.
func TestWalkSkipsWhatNeedsWhatFailed(t *testing.T) {
	walks(t, impl.State{}, [][3]string{
		{"res a { } res b { x = a.id } res c { x = b.id }", "0", "fail skip skip: begin; intent a create; fail a; end |"},
		{"res a { } res b { x = a.id } res c { x = b.id }", "5 0", "done fail skip: begin; intent a create; done a {id = 5}; intent b create; fail b; end |"},
		{"res a { } res b { x = a.id } res c { }", "0 6", "fail skip done: begin; intent a create; fail a; intent c create; done c {id = 6}; end |"},
		{"res a { } res b { } res c { x = a.id y = b.id }", "5 0 7", "done fail skip: begin; intent a create; done a {id = 5}; intent b create; fail b; end |"},
		{"res a { x = m } res m count 3 { }", "5 0 7 8", "done fail done skip: begin; intent m[0] create; done m[0] {id = 5}; intent m[1] create; fail m[1]; intent m[2] create; done m[2] {id = 7}; end |"},
		// Also where it would not have been asked, or its own value does not hang on it.
		{"res a { } res b { x = true ? 1 : a.id }", "0 6", "fail skip: begin; intent a create; fail a; end |"},
		{"res m count 2 { } res b { x = m[1].id }", "0 6 7", "fail done skip: begin; intent m[0] create; fail m[0]; intent m[1] create; done m[1] {id = 6}; end |"},
	})
	walks(t, there("a {id = 1, x = 1}", "b {id = 2, x = 1} needs a", "c {id = 3}"), [][3]string{
		{"res a { x = 2 } res b { x = a.x } res c { }", "0", "fail skip: begin; intent a update; fail a; end |"},
		{"res a { kind = 2 } res b { x = a.id } res c { kind = b.x }", "0", "fail skip skip: begin; intent a replace; fail a; end |"},
		// What stays did not fail.
		{"res a { x = 1 } res b { x = a.id y = c.id } res c { }", "4", "done: begin; intent b update; done b {id = 2, x = 1, y = 3} needs a c; end |"},
	})
	// What has no value, or was skipped or full, failed as well.
	text := "res a { } res b { x = a.id < 9 ? 1 : foo() } res c { x = b.id } res d { x = c.id } res e { }"
	walks(t, impl.State{}, [][3]string{
		{text, "5 6 7 8 9", "done done done done done: begin; intent a create; done a {id = 5}; intent b create; done b {id = 6, x = 1} needs a; intent c create; done c {id = 7, x = 6} needs b; intent d create; done d {id = 8, x = 7} needs c; intent e create; done e {id = 9}; end |"},
		{text, "9 6", "done value skip skip done: begin; intent a create; done a {id = 9}; intent e create; done e {id = 6}; end |"},
	})
	walks(t, calm(9, false, manyEntries(15)...), [][3]string{{"res xa { } res xb { } res xc { x = xb.id }", "5", "done full skip stop: begin; intent xa create; done xa {id = 5}; intent aa delete |"}})
}

// TestWalkSkipsWhatIsNeeded: what is to go stays as long as another entry has it among its Deps.
func TestWalkSkipsWhatIsNeeded(t *testing.T) {
	walks(t, there("a {id = 1}", "b {id = 2} needs a"), [][3]string{
		{"", "5 6", "done done: begin; intent b delete; gone b; intent a delete; gone a; end |"},
		{"", "0 6", "fail skip: begin; intent b delete; fail b; end |"},
		{"", "5 0", "done fail: begin; intent b delete; gone b; intent a delete; fail a; end |"},
		// What stays as it is keeps its Deps, and so does what failed to be changed.
		{"res b { }", "5", "skip: begin; end |"},
		{"res b { x = 1 }", "5 6", "done done: begin; intent b update; done b {id = 2, x = 1}; intent a delete; gone a; end |"},
		{"res b { x = 1 }", "0 6", "fail skip: begin; intent b update; fail b; end |"},
		{"res b { x = foo }  res foo { }", "0", "fail skip skip: begin; intent foo create; fail foo; end |"},
	})
	// One with Taint, and one that needs itself.
	walks(t, there("a {id = 1}", "!b {id = 2} needs a"), [][3]string{
		{"", "5 6", "done done: begin; intent b delete; gone b; intent a delete; gone a; end |"},
		{"", "0 6", "fail skip: begin; intent b delete; fail b; end |"},
		{"res b { }", "5 6", "done done: begin; intent b replace; done b {id = 5}; intent a delete; gone a; end |"},
		{"res b { }", "0 6", "fail skip: begin; intent b replace; fail b; end |"},
	})
	walks(t, there("a {id = 1} needs a"), [][3]string{{"", "5", "done: begin; intent a delete; gone a; end |"}})
	walks(t, there("a {id = 1} needs a", "b {} needs a b z"), [][3]string{{"", "5 6", "skip done: begin; intent b delete; gone b; end |"}})
	walks(t, there("a {id = 1} needs b", "b {id = 2} needs a", "c {}"), [][3]string{{"", "5 6", "done skip skip: begin; intent c delete; gone c; end |"}})
	walks(t, there("a {} needs z", "b {} needs a[0]"), [][3]string{{"", "5 6", "done done: begin; intent a delete; gone a; intent b delete; gone b; end |"}})
	// What was done on the way needs what it needs by then.
	walks(t, there("a {id = 1}", "b {id = 2} needs a", "c {id = 3} needs b"), [][3]string{
		{"res c { x = 1 }", "5 6 7", "done done done: begin; intent c update; done c {id = 3, x = 1}; intent b delete; gone b; intent a delete; gone a; end |"},
		{"res c { x = 1 }", "0 6 7", "fail skip skip: begin; intent c update; fail c; end |"},
		{"", "5 0 7", "done fail skip: begin; intent c delete; gone c; intent b delete; fail b; end |"},
		{"res b { }", "5 6", "skip done: begin; intent c delete; gone c; end |"},
	})
}

// TestWalkWithoutAValue: what has none once all is known is not begun, and needs no answer.
func TestWalkWithoutAValue(t *testing.T) {
	for _, e := range []string{"b.id && true", "!b.id", "b.id ? 1 : 2", "[1][b.id]", "b.id.x", `cat("x", b.id)`, "b.id < 9 ? {}.x : 1", "1000000000000 + b.id", "b.id == 5 ? " + nestedLists(6) + " : 1", "b.id == 5 ? foo() : 1"} {
		walks(t, impl.State{}, [][3]string{{"res a { x = " + e + " } res b { } res c { }", "5 6", "done value done: begin; intent b create; done b {id = 5}; intent c create; done c {id = 6}; end |"}})
		walks(t, there("a {id = 1, x = 1} needs b", "!b {id = 2}"), [][3]string{{"res a { x = " + e + " } res b { } res c { }", "5 6", "done value done: begin; intent b replace; done b {id = 5}; intent c create; done c {id = 6}; end |"}})
	}
	// What is not known although all is there: whole resources that are too great for a value.
	made := "begin; intent m[0] create; done m[0] {id = 5, x = " + nulls(20) + "}; intent m[1] create; done m[1] {id = 6, x = " + nulls(20) + "}; end |"
	walks(t, impl.State{}, [][3]string{{"res a { x = m == m } res m count 2 { x = " + nulls(20) + " }", "5 6 7", "done done value: " + made}, {"res a { x = [m == m, 1] } res m count 2 { x = " + nulls(20) + " }", "5 6 7", "done done value: " + made}})
	// What is skipped is not asked for a value, and what goes has none.
	walks(t, there("!b {id = 5}"), [][3]string{{"res a { x = b.id && true } res b { }", "0", "fail skip: begin; intent b replace; fail b; end |"}})
	walks(t, there("b {id = 5}", "c {id = 1} needs b"), [][3]string{{"", "7 8", "done done: begin; intent c delete; gone c; intent b delete; gone b; end |"}})
}

// TestWalkWithTooGreatAValue: with id, as many parts and as deep as may be, and one more.
func TestWalkWithTooGreatAValue(t *testing.T) {
	parts, deep := "res b { x = c.id == 5 ? "+nulls(19)+" : 1 } res c { }", "res b { x = c.id == 5 ? [[[]]] : 1 } res c { }"
	for text, want := range map[string]string{
		"res a { x = b.x y = b.x } " + parts: "done", "res a { x = b.x y = b.x z = 1 } " + parts: "value", "res a { x = b } " + parts: "done", "res a { x = b.x y = b } " + parts: "value", "res a { x = [b.x, b.x] y = 1 } " + parts: "value", "res a { x = [b.x, b.x, b.x] } " + parts: "value",
		"res a { x = b.x } " + deep: "done", "res a { x = [b.x] } " + deep: "done", "res a { x = [[b.x]] } " + deep: "value", "res a { x = {k = b} } " + deep: "value", "res a { x = [[[b.x]]] } " + deep: "value",
	} {
		for first, last := range map[int]string{5: want, 4: "done"} {
			x, codes, code := impl.Walk(impl.History{}, configFrom(text+" res d { y = a.id }"), []int{first, 6, 7, 8})
			if last == "value" {
				last = "value skip"
			} else {
				last = "done done"
			}
			if got := codesText(codes); code != impl.CfWell || got != "done done "+last || len(x.Events) != 6+2*strings.Count(last, "done") {
				t.Errorf("%s, %d: %d, %s", text, first, code, got)
			}
		}
	}
	// An update keeps the id that is there, which may be great itself.
	for parts, fits := range map[int]bool{1: true, 37: true, 38: false, 39: false} {
		id := wide(parts)
		updated := "value: begin; end |"
		if fits {
			updated = "done: begin; intent a update; done a {id = " + textByRule(id) + ", x = null, y = 1}; end |"
		}
		walks(t, calm(3, false, entry("a", 1, vMap("id", id), "")), [][3]string{
			{"res a { x = null y = 1 }", "5", updated},
			{"res a { kind = 1 x = 2 }", "5", "done: begin; intent a replace; done a {id = 5, kind = 1, x = 2}; end |"},
			{"", "5", "done: begin; intent a delete; gone a; end |"},
		})
	}
}

// TestWalkUsesAnAnswerForEachThatIsBegun: what is skipped or has no value uses none.
func TestWalkUsesAnAnswerForEachThatIsBegun(t *testing.T) {
	text := "res a { } res b { x = a.id } res c { x = 1 } res d { x = a.id == 9 ? foo() : 1 } res e { }"
	walks(t, there("c {id = 3, x = 1}", "d {id = 4}", "y {} needs z", "z {}"), [][3]string{
		{text, "9 8 7 6 5", "done done value done done done: begin; intent a create; done a {id = 9}; intent b create; done b {id = 8, x = 9} needs a; intent e create; done e {id = 7}; intent y delete; gone y; intent z delete; gone z; end |"},
		{text, "0 8 7 6 5", "fail skip skip done done done: begin; intent a create; fail a; intent e create; done e {id = 8}; intent y delete; gone y; intent z delete; gone z; end |"},
		{text, "0 8 0 6", "fail skip skip done fail skip: begin; intent a create; fail a; intent e create; done e {id = 8}; intent y delete; fail y; end |"},
		// With none left, those that need none are still gone past.
		{text, "0", "fail skip skip stop: begin; intent a create; fail a; intent e create |"},
		{text, "9 8", "done done value stop: begin; intent a create; done a {id = 9}; intent b create; done b {id = 8, x = 9} needs a; intent e create |"},
		{text, "9 8 7 0", "done done value done fail skip: begin; intent a create; done a {id = 9}; intent b create; done b {id = 8, x = 9} needs a; intent e create; done e {id = 7}; intent y delete; fail y; end |"},
	})
	// More than are asked for change nothing.
	for _, more := range []string{"5", "5 6", "5 0", "5 0 1000000 7"} {
		walks(t, impl.State{}, [][3]string{{"res a { }", more, "done: begin; intent a create; done a {id = 5}; end |"}, {"", more, ": begin; end |"}, {"local l = 1 out o = 1", more, ": begin; end |"}, {"res a count 0 { }", more, ": begin; end |"}})
		walks(t, there("a {id = 1, x = 2}"), [][3]string{{"res a { x = 2 }", more, ": begin; end |"}})
	}
	walks(t, impl.State{}, [][3]string{{"", "", ": begin; end |"}})
}
