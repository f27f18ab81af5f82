package tests

import (
	"slices"
	"strings"
	"testing"

	"loop.example/g00407/impl"
)

// The chapter once more, by its words, over the rules of the chapters ahead of it.

// track is a history that grows, and what it makes by now.
type track struct {
	h   impl.History
	now impl.State
}

// writes puts an event behind all, if there are fewer than MaxEvents and it fits.
func (k *track) writes(e impl.Event, safe bool) bool {
	next, fits := doByRule(k.now, e)
	if len(k.h.Events) >= 300 || !fits {
		return false
	}
	k.now = next
	k.h.Events = append(slices.Clip(k.h.Events), e)
	if safe {
		k.h.Safe = len(k.h.Events)
	}
	return true
}

// trackByRule is what a walk goes on from, with EvReset written if it was open; false if it may not be.
func trackByRule(h impl.History, answers []int) (*track, []impl.State, bool) {
	states, ok := statesByRule(h)
	if !ok || len(answers) > 100 {
		return nil, nil, false
	}
	for _, n := range answers {
		if n < 0 || n > 1000000 {
			return nil, nil, false
		}
	}
	return &track{h, states[len(states)-1]}, states, true
}

// nowByRule are the attributes of the one at an address by the values that entries have; false if they have none.
func nowByRule(l []impl.Item, addr string, now impl.State) (impl.Value, bool) {
	insts, _, _ := instsByRule(l)
	locals, _, _ := localsByRule(l)
	values := map[string]impl.Value{}
	var mine impl.Inst
	for _, one := range insts {
		values[string(one.Addr)] = vUnknown
		if at := findByRule(now, one.Addr); at >= 0 {
			values[string(one.Addr)] = now.Entries[at].Val
		}
		if string(one.Addr) == addr {
			mine = one
		}
	}
	x := l[mine.Item]
	env := impl.Env{Locals: locals, Res: resByRule(l, insts, strings.Fields(usesByRule(x)), values), Index: mine.Index, Key: mine.Key, Val: mine.Val}
	attrs := map[string]impl.Value{}
	for i, e := range x.Exprs {
		v, code := evalByRule(e, env)
		if code != impl.EvWell {
			return impl.Value{}, false
		}
		attrs[string(x.Names[i])] = v
	}
	return mapByName(attrs), true
}

// neededByRule tells whether an entry with another address has this one among its Deps.
func neededByRule(s impl.State, addr string) bool {
	return slices.ContainsFunc(s.Entries, func(x impl.Entry) bool {
		return string(x.Addr) != addr && slices.Contains(strings.Fields(texts(x.Deps)), addr)
	})
}

// goByRule goes through the acts of a plan; false if it can't begin.
func (k *track) goByRule(p impl.Plan, answers []int, attrsOf func(a impl.Act) (impl.Value, bool)) ([]int, bool) {
	if !k.writes(evBegin, true) {
		return nil, false
	}
	var codes []int
	failed := map[string]bool{}
	used := 0
	for _, a := range p.Acts {
		code, end := k.actByRule(a, failed, answers[used:], attrsOf)
		codes = append(codes, code)
		if end {
			return codes, true
		}
		if code == impl.WkDone || code == impl.WkFail {
			used++
		}
		failed[string(a.Addr)] = code != impl.WkDone && code != impl.WkStop
	}
	k.writes(evEnd, true)
	return codes, true
}

// actByRule is the code of an act, and whether that is the end.
func (k *track) actByRule(a impl.Act, failed map[string]bool, left []int, attrsOf func(a impl.Act) (impl.Value, bool)) (int, bool) {
	addr := string(a.Addr)
	for _, dep := range a.Deps {
		if failed[string(dep)] {
			return impl.WkSkip, false
		}
	}
	if a.Act == impl.AcDelete && neededByRule(k.now, addr) {
		return impl.WkSkip, false
	}
	id := vInt(1)
	var attrs impl.Value
	if a.Act != impl.AcDelete {
		v, ok := attrsOf(a)
		if !ok || greatByRule(withByRule(v, "id", &vNull)) {
			return impl.WkValue, false
		}
		attrs = v
	}
	if len(left) > 0 {
		id = vInt(left[0])
	}
	if a.Act == impl.AcUpdate {
		if has, is := fieldsByName(k.now.Entries[findByRule(k.now, a.Addr)].Val)["id"]; is {
			id = has
		}
	}
	if v := withByRule(attrs, "id", &id); a.Act != impl.AcDelete && (greatByRule(v) || !knownInAll(v)) {
		return impl.WkValue, false
	}
	if !k.writes(evIntent(addr, a.Act), true) {
		return impl.WkFull, len(k.h.Events) == 300
	}
	if len(left) == 0 {
		return impl.WkStop, true
	}
	e, code := evDone(addr, withByRule(attrs, "id", &id), texts(a.Deps)), impl.WkDone
	if a.Act == impl.AcDelete {
		e = evGone(addr)
	}
	if left[0] == 0 {
		e, code = evFail(addr), impl.WkFail
	}
	if !k.writes(e, false) {
		return impl.WkFull, true
	}
	return code, false
}

func walkByRule(h impl.History, l []impl.Item, answers []int) (impl.History, []int, int) {
	k, _, ok := trackByRule(h, answers)
	if !ok || !configByRule(l) {
		return impl.History{}, nil, impl.CfForm
	}
	k.writes(evReset, true)
	wishes, code, _ := wishesByRule(l, k.now)
	if code != impl.CfWell {
		return k.h, nil, code
	}
	codes, begun := k.goByRule(planByRule(wishes, k.now), answers, func(a impl.Act) (impl.Value, bool) { return nowByRule(l, string(a.Addr), k.now) })
	if !begun {
		return k.h, nil, impl.CfBig
	}
	return k.h, codes, impl.CfWell
}

func revertByRule(h impl.History, serial int, answers []int) (impl.History, []int, bool) {
	k, states, ok := trackByRule(h, answers)
	if !ok || !within(h, serial) {
		return impl.History{}, nil, false
	}
	k.writes(evReset, true)
	codes, begun := k.goByRule(restoreByRule(k.now, states[serial-h.Base.Serial]), answers, func(a impl.Act) (impl.Value, bool) { return a.Val, true })
	return k.h, codes, begun
}

func resumeByRule(h impl.History) (impl.History, bool) {
	k, _, ok := trackByRule(h, nil)
	if !ok {
		return impl.History{}, false
	}
	was := k.now.Open
	k.writes(evReset, true)
	return k.h, was && !k.now.Open
}

// walksByRule fails where the functions of the chapter do not tell what its words say; it gives what Walk and Revert tell.
func walksByRule(t *testing.T, h impl.History, l []impl.Item, serial int, answers []int) (walked impl.History, codes []int, code int, reverted impl.History, others []int, ok bool) {
	t.Helper()
	what := string(impl.ConfigText(l)) + " from " + statesText(h.Base) + ", " + storyText(h, 0) + " with " + numsText(answers)
	want, wantCodes, wantCode := walkByRule(h, l, answers)
	walked, codes, code = impl.Walk(h, l, answers)
	if code != wantCode || !alike(codes, wantCodes) || !alike(walked, want) {
		t.Fatalf("%s: Walk tells %s, %d, %s, wanted %s, %d, %s", what, codesText(codes), code, storyText(walked, 0), codesText(wantCodes), wantCode, storyText(want, 0))
	}
	want, wantCodes, wantOk := revertByRule(h, serial, answers)
	reverted, others, ok = impl.Revert(h, serial, answers)
	if ok != wantOk || !alike(others, wantCodes) || !alike(reverted, want) {
		t.Fatalf("%s to %d: Revert tells %s, %v, %s, wanted %s, %v, %s", what, serial, codesText(others), ok, storyText(reverted, 0), codesText(wantCodes), wantOk, storyText(want, 0))
	}
	want, wantOk = resumeByRule(h)
	if x, fine := impl.Resume(h); fine != wantOk || !alike(x, want) {
		t.Fatalf("%s: Resume tells %v, %s", what, fine, storyText(x, 0))
	}
	return walked, codes, code, reverted, others, ok
}

// someAnswers draws answers, of which some, perhaps, say that something failed.
func (d *draw) someAnswers() []int {
	var out []int
	seldom := 3 + d.upTo(30)
	for range d.upTo(24) {
		n := 1 + d.upTo(60)
		switch d.upTo(seldom) {
		case 0:
			n = 0
		case 1:
			n = []int{7, 7, 1000000, 1}[d.upTo(4)]
		}
		out = append(out, n)
	}
	return out
}

// ample are answers of which none says that something failed, as many as may be.
func (d *draw) ample() []int {
	var out []int
	for range 100 {
		out = append(out, 1+d.upTo(99))
	}
	return out
}

// doubtful is l with some attributes that have no value if an id turns out to be 7, or at all.
func (d *draw) doubtful(l []impl.Item) []impl.Item {
	l = slices.Clone(l)
	for i, x := range l {
		l[i].Exprs = slices.Clone(x.Exprs)
		for k, e := range x.Exprs {
			if x.Kind != impl.ItRes || e.Kind != impl.ExGet || string(e.S) != "id" || d.upTo(3) > 0 {
				continue
			}
			never := eOf(impl.ExNot, e)
			seldom := eOf(impl.ExIf, eOf(impl.ExEq, e, eInt(7)), eOf(impl.ExNeg, eTrue), e)
			l[i].Exprs[k] = []impl.Expr{never, seldom, seldom}[d.upTo(3)]
		}
	}
	return l
}

// burdened is s with great ids here and there.
func (d *draw) burdened(s impl.State) impl.State {
	s.Entries = slices.Clone(s.Entries)
	for i, x := range s.Entries {
		id := wide(28 + d.upTo(12))
		if v := withByRule(x.Val, "id", &id); d.upTo(8) == 0 && !greatByRule(v) {
			s.Entries[i].Val = v
		}
	}
	return s
}

// trial draws a history that has the entries of s, perhaps with something under way, perhaps with little room.
func (d *draw) trial(s impl.State) impl.History {
	h := histOf(d.burdened(s), 0)
	switch d.upTo(8) {
	case 0:
		h.Events = turnsOf(300 - 2*d.upTo(6))
	case 1:
		h.Base.Serial = impl.MaxSerial - d.upTo(12)
	case 2:
		h.Base.Open = true
		h.Events = turnsOf(300)[1 : 300-2*d.upTo(6)]
	}
	if d.upTo(3) == 0 {
		h = d.brokenOff(h)
	}
	h.Safe = d.upTo(len(h.Events) + 1)
	return h
}

// brokenOff is h with a run more that does something, and does not end it.
func (d *draw) brokenOff(h impl.History) impl.History {
	add := func(e impl.Event) {
		if x, ok := impl.HistAdd(h, e); ok {
			h = x
		}
	}
	add(evBegin)
	for range d.upTo(3) {
		head, _ := impl.HistHead(h)
		e := evIntent([]string{"db", "net[1]", "old", `web["p"]`, "zone"}[d.upTo(5)], impl.AcCreate)
		if n := len(head.Entries); n > 0 && d.upTo(3) > 0 {
			e = evIntent(string(head.Entries[d.upTo(n)].Addr), impl.AcUpdate+d.upTo(3))
		}
		add(e)
		if d.upTo(2) == 0 {
			add(evDone(string(e.Addr), []impl.Value{d.few(), wideMap(39), wideMap(40), vMap("id", wide(39))}[d.upTo(4)], ""))
			add(evGone(string(e.Addr)))
			add(evFail(string(e.Addr)))
		}
	}
	return h
}

// TestDrawnWalksByRule goes on from drawn histories, from what a walk or a revert made of them, and from what a crash left of that.
func TestDrawnWalksByRule(t *testing.T) {
	d := draw(31)
	codes, acts, reverted, refused := map[int]int{}, map[int]int{}, map[int]int{}, 0
	var earlier []impl.Item
	for l, s := range drawnSchemes(400) {
		h := d.trial(s)
		l = d.doubtful(l)
		for range 4 {
			serial := h.Base.Serial + d.upTo(len(h.Events)+1)
			if d.upTo(20) == 0 {
				serial += 1 - 2*d.upTo(2)
			}
			answers := d.someAnswers()
			if d.upTo(60) == 0 {
				answers = append(answers, []int{-1, 1000001}[d.upTo(2)])
			}
			walked, those, code, back, others, ok := walksByRule(t, h, l, serial, answers)
			codes[code]++
			for _, act := range those {
				acts[act]++
			}
			for _, act := range others {
				reverted[act]++
			}
			if !ok {
				refused++
			}
			h = d.goneOn(h, walked, back)
			if d.upTo(3) == 0 && len(earlier) > 0 {
				l, earlier = earlier, l
			}
		}
		earlier = l
	}
	for code := range walkWords {
		if acts[code] < 100 || reverted[code] < 30 {
			t.Error(acts, reverted, "the draws tell nothing")
		}
	}
	for _, code := range []int{impl.CfForm, impl.CfRing, impl.CfValue, impl.CfBig} {
		if codes[code] < 30 {
			t.Error(codes, "the draws tell nothing")
		}
	}
	if codes[impl.CfWell] < 2000 || refused < 100 {
		t.Error(codes, refused, "the draws tell nothing")
	}
}

// goneOn is one of what a walk and a revert made of h, or what a crash leaves of it, or is left if it is forgotten; h if there is none.
func (d *draw) goneOn(h impl.History, walked impl.History, back impl.History) impl.History {
	if next := []impl.History{walked, walked, back}[d.upTo(3)]; len(next.Events) > 0 {
		h = next
	}
	switch d.upTo(6) {
	case 0:
		h = impl.HistCrash(h, d.upTo(3))
	case 1:
		n := d.upTo(len(h.Events) + 1)
		h = impl.HistCrash(histOf(h.Base, min(h.Safe, n), h.Events[:n]...), d.upTo(3))
	case 2:
		if less, ok := impl.HistCompact(h, h.Base.Serial+d.upTo(h.Safe+1)); ok {
			h = less
		}
	}
	return h
}

// TestAnyHistoryByRule: histories that were drawn for their own sake, of which some may not be.
func TestAnyHistoryByRule(t *testing.T) {
	d, good, bad := draw(8), 0, 0
	layouts := drawnLayouts(150)
	for i, h := range drawnHistories(900, 14) {
		if d.upTo(5) == 0 {
			h.Base = d.meddled(h.Base)
		}
		l := layouts[i%len(layouts)]
		if i%2 == 0 {
			l = configFrom([]string{`res a { x = 1 } res b each {k = 1} { y = a.id }`, `res d { a = 1 } res c { a = d.a b = a } res a { }`, ""}[i%3])
		}
		_, _, code, _, _, ok := walksByRule(t, h, l, h.Base.Serial+d.upTo(len(h.Events)+1), d.someAnswers())
		if code == impl.CfWell && ok {
			good++
		}
		if code == impl.CfForm {
			bad++
		}
	}
	if good < 200 || bad < 30 {
		t.Error(good, bad, "the draws tell nothing")
	}
}
