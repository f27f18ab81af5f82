package tests

import (
	"math"
	"strconv"
	"testing"

	"loop.example/g00407/impl"
)

// walkCase is what the functions of the chapter are given.
type walkCase struct {
	H       impl.History
	L       []impl.Item
	Serial  int
	Answers []int
}

// looseWalkCase copies a case with marked room behind each list; what lies behind the answers would be one.
func looseWalkCase(c walkCase) walkCase {
	return walkCase{looseHistory(c.H), looseItems(c.L), c.Serial, roomyOf(c.Answers, 9)}
}

// walkAnswers are all that the functions of the chapter say of these.
func walkAnswers(c walkCase) map[string][]any {
	out := map[string][]any{}
	h, codes, code := impl.Walk(c.H, c.L, c.Answers)
	out["Walk"] = []any{h, codes, code}
	h, codes, ok := impl.Revert(c.H, c.Serial, c.Answers)
	out["Revert"] = []any{h, codes, ok}
	h, ok = impl.Resume(c.H)
	out["Resume"] = []any{h, ok}
	return out
}

// eachWalkCase calls with cases of which all, some or none may be.
func eachWalkCase(call func(c walkCase)) {
	d := draw(23)
	for l, s := range drawnSchemes(25) {
		h := histOf(s, 0)
		if d.upTo(2) == 0 {
			h = d.brokenOff(h)
			h.Safe = d.upTo(len(h.Events) + 1)
		}
		call(walkCase{h, l, h.Base.Serial + d.upTo(len(h.Events)+1), d.someAnswers()})
		walked, _, _ := impl.Walk(h, l, d.ample())
		call(walkCase{walked, l, h.Base.Serial, d.someAnswers()})
	}
	all := configFrom(`local m = {p = "x", q = ["y"]} res web each $m { a = db b = net[0].id c = val } res db { a = net[1].id kind = "t" } res net count 2 { a = $m } res app { a = net[0] } out o = [web.p.c, db]`)
	histories := append(drawnHistories(12, 14), impl.History{}, histOf(impl.State{}, 7, life()...), histOf(busy(9, "a", impl.AcUpdate, two()...), 0), histOf(there(`db {a = ["z"], id = "i", kind = "u"} needs net[0]`, `!net[1] {id = ["n"]}`, `old {id = ["o"]} needs db web`), 0), usedUp(298, "old {}"), late(3, "old {}"), histOf(impl.State{}, 4, turnsOf(299)...))
	histories = append(histories, histOf(impl.State{}, -1, life()...), histOf(calm(-1, true), 0, life()...), histOf(impl.State{}, 0, life()[1:]...))
	_, bad := answerRows()
	for i, h := range histories {
		for j, answers := range [][]int{nil, {5, 6, 7, 8, 9, 10, 11, 12}, {0, 0, 0}, {5, 0, 6}, bad[i%len(bad)]} {
			call(walkCase{h, all, h.Base.Serial + (i+3*j)%(len(h.Events)+1), answers})
		}
		call(walkCase{h, configFrom("res a { x = a }"), math.MaxInt, nil})
		call(walkCase{h, []impl.Item{{Kind: 9, Name: []byte("a")}}, math.MinInt, []int{1}})
		call(walkCase{h, nil, -1, []int{1, 2, 3}})
	}
}

func TestWalkConventions(t *testing.T) {
	events := map[string]int{}
	eachWalkCase(func(c walkCase) {
		what := " of " + strconv.Quote(string(impl.ConfigText(c.L))) + " behind " + strconv.Itoa(len(c.H.Events)) + " events with " + numsText(c.Answers)
		plainly := walkAnswers(c)
		wideCase := looseWalkCase(c)
		var answers map[string][]any
		stays(t, what, wideCase, func() { answers = walkAnswers(wideCase) })
		for name, answer := range answers {
			newMemory(t, name+what, answer, []any{wideCase})
			for i := range answer {
				if !alike(answer[i], plainly[name][i]) {
					t.Errorf("%s%s: the room behind a list plays a part", name, what)
				}
			}
			events[name] += max(0, len(answer[0].(impl.History).Events)-len(c.H.Events))
		}
	})
	if events["Walk"] < 500 || events["Revert"] < 200 || events["Resume"] < 20 {
		t.Error(events, "the cases tell nothing")
	}
}

// TestBesideAWalkThatIsRefused: the zero value, or the history; and no codes.
func TestBesideAWalkThatIsRefused(t *testing.T) {
	seen := map[string]int{}
	eachWalkCase(func(c walkCase) {
		for name, answer := range walkAnswers(c) {
			h := answer[0].(impl.History)
			zero := !impl.HistOk(c.H)
			switch name {
			case "Walk":
				zero = answer[2] == impl.CfForm
				if answer[2] != impl.CfWell && len(answer[1].([]int)) > 0 {
					t.Error(name, answer[1:])
				}
				seen[name+strconv.Itoa(answer[2].(int))]++
			case "Revert":
				_, there := impl.HistAt(c.H, c.Serial)
				_, _, code := impl.Walk(c.H, nil, c.Answers)
				zero = !there || code == impl.CfForm
				if answer[2] == false && len(answer[1].([]int)) > 0 {
					t.Error(name, answer[1:])
				}
				seen[name+strconv.FormatBool(answer[2].(bool))]++
			}
			if zero && !alike(h, impl.History{}) || !zero && !goesOn(c.H, h) || zero && answer[len(answer)-1] == true {
				t.Error(name, storyText(h, 0), answer[1:])
			}
		}
	})
	for _, what := range []string{"Walk0", "Walk1", "Walk2", "Walk6", "Revertfalse", "Reverttrue"} {
		if seen[what] < 5 {
			t.Error(seen, "the cases tell nothing")
		}
	}
}

// overwriteHistory writes into all that a history has.
func overwriteHistory(h impl.History) {
	for i := range h.Base.Entries {
		overwrite(h.Base.Entries[i].Val)
		overwriteTexts(append(h.Base.Entries[i].Deps, h.Base.Entries[i].Addr))
	}
	overwriteTexts([][]byte{h.Base.Pending})
	for i := range h.Events {
		overwrite(h.Events[i].Val)
		overwriteTexts(append(h.Events[i].Deps, h.Events[i].Addr))
		h.Events[i].Kind = 99
	}
}

// TestWalksHangOnNothingElse asks for the same again and again, with others between, and writes into each answer.
func TestWalksHangOnNothingElse(t *testing.T) {
	mine := walkCase{
		H: histOf(there(`db[0] {id = "i", kind = "t"}`, `db[1] {id = "j", kind = "u"} needs old`, `net {id = "k", z = ["z"]} needs old`, `old {a = "o"} needs older`, `older {}`), 1, evBegin, evIntent("net", impl.AcUpdate), evDone("net", vMap("z", vText("y")), "old"), evIntent("new", impl.AcCreate)),
		L: configFrom(`local b = $a local a = {p = "x", q = [["y"]]} res web each $b { a = db[0].id b = net } res db count 2 { kind = "t" } res net { }`), Serial: 9, Answers: []int{5, 6, 0, 7, 8, 9},
	}
	want := walkAnswers(mine)
	eachWalkCase(func(other walkCase) {
		walkAnswers(other)
		for name, answer := range walkAnswers(mine) {
			for i := range answer {
				if !alike(answer[i], want[name][i]) {
					t.Fatal(name, answer)
				}
			}
			overwriteHistory(answer[0].(impl.History))
		}
	})
}

// TestWalksOfEmptyLists: an empty list and nil are the same.
func TestWalksOfEmptyLists(t *testing.T) {
	null := impl.Expr{S: []byte{}, K: [][]byte{}, Kids: []impl.Expr{}}
	web := impl.Item{Kind: impl.ItRes, Name: []byte("web"), By: null, Names: [][]byte{}, Exprs: []impl.Expr{}}
	val := impl.Value{Kind: impl.VkMap, S: []byte{}, K: [][]byte{}, L: []impl.Value{}}
	s := impl.State{Serial: 9, Pending: []byte{}, Entries: []impl.Entry{{Addr: []byte("web"), Val: val, Deps: [][]byte{}, Turned: 1}}}
	h := impl.History{Base: s, Events: []impl.Event{}}
	empty := impl.History{Base: impl.State{Pending: []byte{}, Entries: []impl.Entry{}}, Events: []impl.Event{}}
	for got, want := range map[string]string{
		walkedOn(h, []impl.Item{web}, []int{}): ": begin; end |", walkedOn(h, []impl.Item{}, []int{}): "stop: begin; intent web delete |", walkedOn(empty, []impl.Item{web}, []int{4}): "done: begin; intent web create; done web {id = 4}; end |",
		walkedOn(empty, []impl.Item{}, nil) + "!": ": begin; end |!", revertedTo(h, 9, []int{}) + "!!": ": begin; end |!!", revertedTo(empty, 0, []int{}) + "!!!": ": begin; end |!!!", resumedFrom(h): "as it was", resumedFrom(empty) + "!": "as it was!",
	} {
		if got != want {
			t.Errorf("%s, wanted %s", got, want)
		}
	}
	for name, answer := range walkAnswers(walkCase{L: nil}) {
		for i, other := range walkAnswers(walkCase{empty, []impl.Item{}, 0, []int{}})[name] {
			if !alike(answer[i], other) {
				t.Error(name, answer[i], other)
			}
		}
	}
}

// TestWalksOfSharedLists: parts of the arguments may share memory, and those of the answers do not.
func TestWalksOfSharedLists(t *testing.T) {
	name := []byte("a")
	keys := [][]byte{name}
	text := impl.Expr{Kind: impl.ExText, S: name}
	m := impl.Expr{Kind: impl.ExMap, K: keys, Kids: []impl.Expr{text}}
	l := []impl.Item{
		{Kind: impl.ItLocal, Name: name, Exprs: m.Kids},
		{Kind: impl.ItRes, Name: name, Many: impl.MnEach, By: m, Names: keys, Exprs: m.Kids},
		{Kind: impl.ItRes, Name: []byte("b"), Names: [][]byte{name, []byte("b")}, Exprs: []impl.Expr{{Kind: impl.ExRes, S: name}, {Kind: impl.ExRes, S: name}}},
	}
	v := vMap("a id", vText("x"), vList(vText("y")))
	deps := [][]byte{name, []byte("b")}
	s := impl.State{Serial: 3, Entries: []impl.Entry{{Addr: name, Val: v, Deps: deps, Turned: 1}, {Addr: []byte(`a["a"]`), Val: v, Deps: deps, Turned: 1}, {Addr: []byte("c"), Val: v, Deps: deps, Turned: 1}}}
	done := impl.Event{Kind: impl.EvDone, Addr: name, Val: vMap("z", v), Deps: deps}
	h := histOf(s, 2, evBegin, impl.Event{Kind: impl.EvIntent, Addr: name, Act: impl.AcUpdate}, done, impl.Event{Kind: impl.EvIntent, Addr: name, Act: impl.AcUpdate}, done, evEnd)
	for serial := 3; serial <= 9; serial++ {
		c := walkCase{h, l, serial, []int{5, 6, 7}}
		for what, answer := range walkAnswers(c) {
			newMemory(t, what, answer, []any{c})
		}
	}
	if got := walkedOn(h, l, []int{5, 6, 7}); got != `done done done stop: begin; intent a["a"] update; done a["a"] {a = "a", id = ["y"]}; intent b create; done b {a = {a = {a = "a", id = ["y"]}}, b = {a = {a = "a", id = ["y"]}}, id = 6} needs a["a"]; intent c delete; gone c; intent a delete |` {
		t.Error(got)
	}
}
