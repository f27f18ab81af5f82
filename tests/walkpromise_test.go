package tests

import (
	"slices"
	"strings"
	"testing"

	"loop.example/g00407/impl"
)

// journey is a walk, or a going back to a serial, with what it went on from and what came of it.
type journey struct {
	from    impl.History
	l       []impl.Item
	serial  int
	back    bool
	answers []int
	to      impl.History
	codes   []int
}

// again goes the same way with other answers.
func (j journey) again(answers []int) (impl.History, []int) {
	if j.back {
		x, codes, _ := impl.Revert(j.from, j.serial, answers)
		return x, codes
	}
	x, codes, _ := impl.Walk(j.from, j.l, answers)
	return x, codes
}

// allDone tells whether all acts were done and it ended.
func (j journey) allDone() bool {
	head, _ := impl.HistHead(j.to)
	return !head.Open && !slices.ContainsFunc(j.codes, func(code int) bool { return code != impl.WkDone })
}

// journeys tells many that could be begun, of histories that were drawn and of what became of these; answers come from one of two wells.
func journeys(n int, ample bool) func(yield func(j journey) bool) {
	return func(yield func(j journey) bool) {
		d := draw(n + 3)
		var earlier []impl.Item
		for l, s := range drawnSchemes(n) {
			h := d.trial(s)
			for range 4 {
				j := journey{from: h, l: l, serial: h.Base.Serial + d.upTo(len(h.Events)+1), answers: d.someAnswers()}
				if ample {
					j.answers = d.ample()
				}
				walked, codes, code := impl.Walk(h, l, j.answers)
				j.to, j.codes = walked, codes
				if code == impl.CfWell && !yield(j) {
					return
				}
				back, others, ok := impl.Revert(h, j.serial, j.answers)
				j.to, j.codes, j.back = back, others, true
				if ok && !yield(j) {
					return
				}
				h = d.goneOn(h, walked, back)
				if d.upTo(3) == 0 && len(earlier) > 0 {
					l, earlier = earlier, l
				}
			}
			earlier = l
		}
	}
}

// TestWalksGoOnFromAHistory: all that was is there, and behind it EvReset, if it was open, and EvBegin.
func TestWalksGoOnFromAHistory(t *testing.T) {
	open := 0
	for j := range journeys(150, false) {
		head, _ := impl.HistHead(j.from)
		if !goesOn(j.from, j.to) || !impl.HistOk(j.to) {
			t.Fatal(storyText(j.from, 0), storyText(j.to, 0))
		}
		events := j.to.Events[len(j.from.Events):]
		if head.Open {
			open++
			if events[0].Kind != impl.EvReset {
				t.Fatal(storyText(j.to, 0))
			}
			events = events[1:]
		}
		if events[0].Kind != impl.EvBegin || slices.ContainsFunc(events[1:], func(e impl.Event) bool { return e.Kind == impl.EvBegin || e.Kind == impl.EvReset }) {
			t.Fatal(storyText(j.to, 0))
		}
		for _, serial := range []int{j.from.Base.Serial, j.serial, head.Serial} {
			was, _ := impl.HistAt(j.from, serial)
			if is, ok := impl.HistAt(j.to, serial); !ok || !alike(is, was) {
				t.Fatal(serial, statesText(was), statesText(is))
			}
		}
	}
	if open < 100 {
		t.Error(open, "the draws tell nothing")
	}
}

// TestWhatWasDoneHadAllThatItNeeds: and what went nobody needed any more.
func TestWhatWasDoneHadAllThatItNeeds(t *testing.T) {
	had, gone := 0, 0
	for j := range journeys(250, false) {
		states, _ := statesByRule(j.to)
		for i, e := range j.to.Events {
			if i < len(j.from.Events) {
				continue
			}
			now := states[i]
			switch e.Kind {
			case impl.EvDone:
				for _, dep := range e.Deps {
					had++
					if findByRule(now, dep) < 0 && !(j.back && onARing(j, e.Addr)) {
						t.Fatalf("%s: %s lacks", eventTextByRule(e), dep)
					}
				}
			case impl.EvGone:
				gone++
				for _, other := range impl.Needs(now, e.Addr) {
					if string(other) != string(e.Addr) {
						t.Fatalf("%s: %s needs it", eventTextByRule(e), other)
					}
				}
			}
		}
	}
	if had < 1500 || gone < 300 {
		t.Error(had, gone, "the draws tell nothing")
	}
}

// onARing tells whether what was at an address at the serial of j is on a ring of what needs what, or behind one: no order has it behind all that it needs.
func onARing(j journey, addr []byte) bool {
	old, _ := impl.HistAt(j.from, j.serial)
	g := chosen(len(old.Entries), func(e impl.Edge) bool {
		return slices.Contains(strings.Fields(texts(old.Entries[e.To].Deps)), string(old.Entries[e.From].Addr))
	})
	return slices.Contains(impl.Reach(g, impl.Ring(g)), findByRule(old, addr))
}

// TestFewerAnswersBringAboutTheBeginning: of the events, and of the codes but for the last one.
func TestFewerAnswersBringAboutTheBeginning(t *testing.T) {
	shorter, same := 0, 0
	for j := range journeys(40, false) {
		for n := range len(j.answers) {
			x, codes := j.again(j.answers[:n])
			if !goesOn(j.from, x) || len(x.Events) > len(j.to.Events) || !alike(x.Events, j.to.Events[:len(x.Events)]) || len(codes) > len(j.codes) {
				t.Fatal(storyText(x, 0), storyText(j.to, 0))
			}
			if k := len(codes) - 1; k >= 0 && codes[k] == impl.WkStop {
				shorter++
				if !alike(codes[:k], j.codes[:k]) || x.Safe != len(x.Events) || x.Events[len(x.Events)-1].Kind != impl.EvIntent {
					t.Fatal(codesText(codes), codesText(j.codes))
				}
			} else if same++; !alike(codes, j.codes) || !alike(x, j.to) {
				t.Fatal(codesText(codes), codesText(j.codes))
			}
		}
	}
	if shorter < 400 || same < 400 {
		t.Error(shorter, same, "the draws tell nothing")
	}
}

// TestCodesTellWhatWasWritten: how many events of which kind there are, act by act.
func TestCodesTellWhatWasWritten(t *testing.T) {
	seen := map[int]int{}
	for j := range journeys(150, false) {
		head, _ := impl.HistHead(j.from)
		if reset, ok := impl.Resume(j.from); ok {
			head, _ = impl.HistHead(reset)
		}
		p, _, _ := impl.PlanOf(j.l, head)
		if j.back {
			was, _ := impl.HistAt(j.from, j.serial)
			p, _ = impl.RestoreOf(head, was)
		}
		events := j.to.Events[len(j.from.Events):]
		at := slices.IndexFunc(events, func(e impl.Event) bool { return e.Kind == impl.EvBegin }) + 1
		take := func(kind int, addr []byte) {
			if at >= len(events) || events[at].Kind != kind || string(events[at].Addr) != string(addr) {
				t.Fatalf("%d of %s of %s: %s", at, addr, codesText(j.codes), storyText(j.to, len(j.from.Events)))
			}
			at++
		}
		for i, code := range j.codes {
			seen[code]++
			a := p.Acts[i]
			switch code {
			case impl.WkDone:
				take(impl.EvIntent, a.Addr)
				take(map[bool]int{true: impl.EvGone, false: impl.EvDone}[a.Act == impl.AcDelete], a.Addr)
			case impl.WkFail:
				take(impl.EvIntent, a.Addr)
				take(impl.EvFail, a.Addr)
			case impl.WkStop:
				take(impl.EvIntent, a.Addr)
			case impl.WkFull:
				if at < len(events) && i == len(j.codes)-1 && events[at].Kind == impl.EvIntent {
					take(impl.EvIntent, a.Addr)
				}
			}
		}
		if at < len(events) {
			take(impl.EvEnd, nil)
		}
		if at != len(events) || len(j.codes) < len(p.Acts) && j.allDone() {
			t.Fatal(codesText(j.codes), storyText(j.to, len(j.from.Events)))
		}
	}
	if len(seen) != 6 {
		t.Error(seen, "the draws tell nothing")
	}
}

// justWanted fails where the head of a walk whose acts were all done does not have just what was wanted, or there is still something to do; it tells whether a plan has no value any more.
func justWanted(t *testing.T, j journey) bool {
	t.Helper()
	from := j.from
	if reset, ok := impl.Resume(from); ok {
		from = reset
	}
	was, _ := impl.HistHead(from)
	now, _ := impl.HistHead(j.to)
	all, code, _ := impl.Wanted(j.l, was)
	if code != impl.CfWell || len(all) != len(now.Entries) {
		t.Fatalf("%s: %s, there is %s", impl.ConfigText(j.l), wantedText(j.l, was), statesText(now))
	}
	for i, x := range now.Entries {
		if string(x.Addr) != string(all[i].Addr) || x.Taint || !turnsOutAs(all[i].Val, x.Val) || x.Turned > was.Serial && !alike(x.Deps, all[i].Deps) {
			t.Fatalf("%s: %s, there is %s", impl.ConfigText(j.l), wantedText(j.l, was), statesText(now))
		}
	}
	p, code, _ := impl.PlanOf(j.l, now)
	if code == impl.CfValue {
		return true
	}
	if code != impl.CfWell || len(p.Acts) > 0 || p.Same != len(now.Entries) {
		t.Fatalf("%s: still %s", impl.ConfigText(j.l), planText(p))
	}
	// What is wanted by now is just what is there.
	wanted, _, _ := impl.Wanted(j.l, now)
	for i, x := range wanted {
		if string(x.Addr) != string(now.Entries[i].Addr) || !alike(x.Val, now.Entries[i].Val) {
			t.Fatalf("%s: %s, there is %s", impl.ConfigText(j.l), wantedText(j.l, now), statesText(now))
		}
	}
	return false
}

// TestWhenAllWasDoneWhatIsWantedIs: and to plan again plans nothing, or has no value.
func TestWhenAllWasDoneWhatIsWantedIs(t *testing.T) {
	acts, ended := 0, 0
	for j := range journeys(250, true) {
		if !j.back && j.allDone() {
			justWanted(t, j)
			ended++
			acts += len(j.codes)
		}
	}
	if ended < 700 || acts < 1000 {
		t.Error(ended, acts, "the draws tell nothing")
	}
}

// TestPlansThatHaveNoValueOnceAllIsDone: what is known in spite of what is unknown stays, and then it has none.
func TestPlansThatHaveNoValueOnceAllIsDone(t *testing.T) {
	for text, is := range map[string]string{"a.id && false": "false", "true || a.id": "true", "a.id || true": "true", "len([a.id, a.id + 1])": "2", "len([!a.id])": "1"} {
		s := there("!a {id = 4}", "b {id = 1, x = "+is+"} needs a")
		l := configFrom("res a { } res b { x = " + text + " }")
		j := journey{from: histOf(s, 0), l: l, answers: []int{5, 6}}
		j.to, j.codes = j.again(j.answers)
		none := strings.Contains(text, "a.id ||") || strings.Contains(text, "&&") || strings.Contains(text, "!")
		if got := codesText(j.codes); got != "done" || !j.allDone() || justWanted(t, j) != none {
			t.Error(text, got, storyText(j.to, 0))
		}
	}
}

// brokenAt is what there was once n events of a walk were written.
func brokenAt(j journey, n int) impl.History {
	return histOf(j.to.Base, safeAt(j.to, len(j.from.Events), j.from.Safe, n), j.to.Events[:n]...)
}

// TestARunThatWasBrokenOffIsEndedByResume: what was under way is tainted, all else stays.
func TestARunThatWasBrokenOffIsEndedByResume(t *testing.T) {
	d, busy := draw(5), 0
	for j := range journeys(60, false) {
		for n := len(j.from.Events); n <= len(j.to.Events); n++ {
			h := impl.HistCrash(brokenAt(j, n), d.upTo(2))
			was, _ := impl.HistHead(h)
			x, ok := impl.Resume(h)
			now, fine := impl.HistHead(x)
			if !fine || ok != (was.Open && !now.Open) || ok == alike(x, h) || !goesOn(h, x) || ok && x.Safe != len(x.Events) {
				t.Fatal(storyText(h, 0), storyText(x, 0))
			}
			if !ok {
				continue
			}
			for _, y := range now.Entries {
				at := findByRule(was, y.Addr)
				if string(y.Addr) == string(was.Pending) {
					busy++
					if !y.Taint || y.Turned != now.Serial || at >= 0 && !alike(y.Val, was.Entries[at].Val) {
						t.Fatal(string(y.Addr), statesText(now))
					}
				} else if at < 0 || !alike(y, was.Entries[at]) {
					t.Fatal(string(y.Addr), statesText(now))
				}
			}
			if len(was.Pending) > 0 && findByRule(now, was.Pending) < 0 {
				t.Fatal(string(was.Pending), "is not there")
			}
		}
	}
	if busy < 300 {
		t.Error(busy, "the draws tell nothing")
	}
}

// TestWhateverThereWasAWalkBehindItHasWhatIsWanted: walks, reverts, crashes at any place, resumes and forgetting, one behind the other.
func TestWhateverThereWasAWalkBehindItHasWhatIsWanted(t *testing.T) {
	d, ended, tainted := draw(6), 0, 0
	for j := range journeys(120, false) {
		n := len(j.from.Events) + d.upTo(len(j.to.Events)-len(j.from.Events)+1)
		h := impl.HistCrash(brokenAt(j, n), d.upTo(3))
		switch d.upTo(3) {
		case 0:
			h, _ = impl.Resume(h)
		case 1:
			h, _ = impl.HistCompact(h, h.Base.Serial+h.Safe)
		}
		if head, _ := impl.HistHead(h); len(impl.Tainted(head)) > 0 || len(head.Pending) > 0 {
			tainted++
		}
		next := journey{from: h, l: j.l, answers: d.ample()}
		var code int
		next.to, next.codes, code = impl.Walk(h, j.l, next.answers)
		if code == impl.CfWell && next.allDone() {
			justWanted(t, next)
			ended++
		}
	}
	if ended < 600 || tainted < 300 {
		t.Error(ended, tainted, "the draws tell nothing")
	}
}

// TestWhatIsRevertedHasTheEntriesOfThen: but for id.
func TestWhatIsRevertedHasTheEntriesOfThen(t *testing.T) {
	ended, acts := 0, 0
	for j := range journeys(300, true) {
		if !j.back || !j.allDone() {
			continue
		}
		ended++
		acts += len(j.codes)
		was, _ := impl.HistAt(j.from, j.serial)
		now, _ := impl.HistHead(j.to)
		if barely(now) != barely(was) || len(impl.Tainted(now)) > 0 {
			t.Fatalf("%d: %s, wanted %s", j.serial, statesText(now), statesText(was))
		}
		// Once more there is nothing to do.
		if p, ok := impl.RestoreOf(now, was); !ok || len(p.Acts) > 0 || p.Same != len(was.Entries) {
			t.Fatal(planText(p))
		}
	}
	if ended < 700 || acts < 1000 {
		t.Error(ended, acts, "the draws tell nothing")
	}
}

// TestWithAnswersEnoughWhatIsWantedIs: walk behind walk, from nothing and from what is near it, until there is nothing left to do.
func TestWithAnswersEnoughWhatIsWantedIs(t *testing.T) {
	d, calm := draw(9), 0
	for l, s := range drawnSchemes(120) {
		h := histOf(s, 0)
		for range 5 {
			j := journey{from: h, l: l, answers: d.ample()}
			x, codes, code := impl.Walk(h, l, j.answers)
			if code != impl.CfWell {
				break
			}
			h, j.to, j.codes = x, x, codes
			if !slices.ContainsFunc(codes, func(code int) bool { return code != impl.WkDone }) {
				justWanted(t, j)
				calm++
				break
			}
		}
	}
	if calm < 250 {
		t.Error(calm, "the draws tell nothing")
	}
}
