package tests

import (
	"maps"
	"slices"
	"strconv"
	"testing"

	"loop.example/g00407/impl"
)

// planCase is what the functions of the chapter are given.
type planCase struct {
	L    []impl.Item
	S    impl.State
	Old  impl.State
	P    impl.Plan
	Addr []byte
}

// loosePlan copies a plan with marked room behind each list.
func loosePlan(p impl.Plan) impl.Plan {
	out := impl.Plan{Same: p.Same}
	for _, a := range p.Acts {
		out.Acts = append(out.Acts, impl.Act{Act: a.Act, Addr: roomyOf(a.Addr, 'q'), Item: a.Item, Val: loose(a.Val), Deps: looseDeps(a.Deps)})
	}
	out.Acts = roomyOf(out.Acts, act(1, "behind", vText("x"), "a"))
	return out
}

func loosePlanCase(c planCase) planCase {
	return planCase{looseItems(c.L), looseState(c.S), looseState(c.Old), loosePlan(c.P), roomyOf(c.Addr, ']')}
}

// planAnswers are all that the functions of the chapter say of these.
func planAnswers(c planCase) map[string][]any {
	out := map[string][]any{}
	tell := func(name string, answers ...any) { out[name] = answers }
	p, code, item := impl.PlanOf(c.L, c.S)
	tell("PlanOf", p, code, item)
	p, ok := impl.RestoreOf(c.S, c.Old)
	tell("RestoreOf", p, ok)
	tell("PlanText", impl.PlanText(c.P))
	v, code, item := impl.OutsOf(c.L, c.S)
	tell("OutsOf", v, code, item)
	all, code, item := impl.Wanted(c.L, c.S)
	tell("Wanted", all, code, item)
	tell("Asks", impl.Asks(c.P))
	p, ok = impl.Only(c.P, c.Addr)
	tell("Only", p, ok)
	return out
}

// eachPlanCase calls with cases of which all, some or none may be.
func eachPlanCase(call func(c planCase)) {
	d := draw(19)
	tooLong := func(a impl.Act) bool { return partsByRuleUpTo(a.Val, 100) >= 100 || len(a.Addr) > 100 }
	var plans []impl.Plan
	for _, of := range []map[string]impl.Plan{goodPlans(), badPlans()} {
		for _, why := range slices.Sorted(maps.Keys(of)) {
			if p := of[why]; len(p.Acts) < 40 && !slices.ContainsFunc(p.Acts, tooLong) {
				plans = append(plans, p)
			}
		}
	}
	var states []impl.State
	for _, s := range drawnStates(40) {
		states = append(states, s, d.meddled(s))
	}
	at := 0
	try := func(l []impl.Item, s impl.State) {
		at++
		c := planCase{L: l, S: s, Old: states[at%len(states)], P: plans[at%len(plans)], Addr: []byte([]string{"a", "b", "none", "", "web"}[at%5])}
		if at%3 == 0 {
			c.P = d.anyPlan()
		}
		if n := len(c.P.Acts); n > 0 && at%2 == 0 {
			c.Addr = c.P.Acts[d.upTo(n)].Addr
		}
		call(c)
	}
	for l, s := range drawnSchemes(60) {
		try(l, s)
	}
	for i, l := range slices.Concat(drawnLayouts(60), fullConfigs()) {
		try(l, states[i%len(states)])
	}
	all := configFrom(`local m = {p = "x", q = ["y"]} res web each $m { a = db b = net.id c = val } res db { a = net.id kind = "t" } res net count 2 { a = $m } res app { a = net[0] } out o = [web.p.c, db] out p = $m`)
	for _, text := range []string{`db {a = ["z"], id = "i", kind = "t"} needs net[0]`, `!db {a = ["z"], id = "i", kind = "t"}`, `db {id = "i", kind = "u"}`, `net[0] {a = {p = "x", q = ["y"]}, id = "n"}`, `old {id = ["o"]} needs db web`} {
		try(all, there(text))
	}
	for why, l := range badConfigs() {
		if len(l) < 3 && len(why)%7 == 0 && !slices.ContainsFunc(l, endless) {
			try(l, there("a {}"))
		}
	}
}

func TestPlanConventions(t *testing.T) {
	acts, entries := 0, 0
	eachPlanCase(func(c planCase) {
		what := " of " + strconv.Quote(string(impl.ConfigText(c.L))) + " in " + strconv.Itoa(len(c.S.Entries)) + " entries, " + string(c.Addr)
		plainly := planAnswers(c)
		wideCase := loosePlanCase(c)
		var answers map[string][]any
		stays(t, what, wideCase, func() { answers = planAnswers(wideCase) })
		for name, answer := range answers {
			newMemory(t, name+what, answer, []any{wideCase})
			for i := range answer {
				if !alike(answer[i], plainly[name][i]) {
					t.Errorf("%s%s: the room behind a list plays a part", name, what)
				}
			}
		}
		for _, name := range []string{"PlanOf", "RestoreOf", "Only"} {
			acts += len(answers[name][0].(impl.Plan).Acts)
		}
		entries += len(answers["Wanted"][0].([]impl.Entry))
	})
	if acts < 1000 || entries < 300 {
		t.Error(acts, entries, "the cases tell nothing")
	}
}

// TestBesideAPlanThatIsRefused: beside a code that refuses, or a false, is the zero value; beside CfWell and CfForm the number 0.
func TestBesideAPlanThatIsRefused(t *testing.T) {
	refused := map[string]int{}
	eachPlanCase(func(c planCase) {
		for name, answer := range planAnswers(c) {
			if len(answer) == 3 {
				code, item := answer[1].(int), answer[2].(int)
				if (code == impl.CfWell || code == impl.CfForm) && item != 0 || item < 0 || item > 0 && item >= len(c.L) {
					t.Error(name, code, item)
				}
				if code == impl.CfWell {
					continue
				}
			} else if len(answer) == 1 || answer[1] == true {
				continue
			}
			refused[name]++
			if !alike(answer[0], impl.Value{}) && !alike(answer[0], impl.Plan{}) && !alike(answer[0], []impl.Entry(nil)) {
				t.Error(name, answer)
			}
		}
	})
	for _, name := range []string{"PlanOf", "RestoreOf", "OutsOf", "Wanted", "Only"} {
		if refused[name] < 20 {
			t.Error(refused, "the cases tell nothing")
		}
	}
}

// overwritePlan writes into all that a plan has.
func overwritePlan(p impl.Plan) {
	for i := range p.Acts {
		overwrite(p.Acts[i].Val)
		overwriteTexts(append(p.Acts[i].Deps, p.Acts[i].Addr))
		p.Acts[i].Act = 99
	}
}

// TestPlansHangOnNothingElse asks for the same again and again, with others between, and writes into each answer.
func TestPlansHangOnNothingElse(t *testing.T) {
	mine := planCase{
		L: configFrom(`local b = $a local a = {p = "x", q = [["y"]]} res web each $b { a = db[0].id b = net } res db count 2 { kind = "t" } res net { } out o = web.p out p = [db, net]`),
		S: there(`db[0] {id = "i", kind = "t"}`, `db[1] {id = "j", kind = "u"}`, `net {id = "k", z = ["z"]} needs old`, `old {a = "o"} needs older`, `older {}`), Old: there(`net {a = "x"} needs db[0] web`, `db[0] {kind = "v"}`),
		P: planFrom("a b>a c>b d>a,c"), Addr: []byte("d"),
	}
	want := planAnswers(mine)
	eachPlanCase(func(other planCase) {
		planAnswers(other)
		for name, answer := range planAnswers(mine) {
			for i := range answer {
				if !alike(answer[i], want[name][i]) {
					t.Fatal(name, answer)
				}
			}
			switch x := answer[0].(type) {
			case impl.Plan:
				overwritePlan(x)
			case impl.Value:
				overwrite(x)
			case []impl.Entry:
				for i := range x {
					overwrite(x[i].Val)
					overwriteTexts(append(x[i].Deps, x[i].Addr))
				}
			case []byte:
				overwriteTexts([][]byte{x})
			}
		}
	})
}

// TestPlansOfEmptyLists: an empty list and nil are the same.
func TestPlansOfEmptyLists(t *testing.T) {
	null := impl.Expr{S: []byte{}, K: [][]byte{}, Kids: []impl.Expr{}}
	web := impl.Item{Kind: impl.ItRes, Name: []byte("web"), By: null, Names: [][]byte{}, Exprs: []impl.Expr{}}
	full := func(kind int) impl.Value {
		return impl.Value{Kind: kind, S: []byte{}, K: [][]byte{}, L: []impl.Value{}}
	}
	s := impl.State{Serial: 3, Pending: []byte{}, Entries: []impl.Entry{{Addr: []byte("web"), Val: full(impl.VkMap), Deps: [][]byte{}, Turned: 1}}}
	empty := impl.State{Pending: []byte{}, Entries: []impl.Entry{}}
	p := impl.Plan{Acts: []impl.Act{{Act: impl.AcDelete, Addr: []byte("web"), Item: -1, Val: full(impl.VkNull), Deps: [][]byte{}}}}
	for got, want := range map[string]string{
		planned([]impl.Item{web}, s): "keep 1", planned([]impl.Item{}, s): "delete web; keep 0", planned([]impl.Item{web}, empty): "create web {} of 0; keep 0", planned([]impl.Item{}, empty): "keep 0",
		restored(s, empty) + "!": "delete web; keep 0!", restored(empty, s): "create web {}; keep 0", outsText([]impl.Item{}, empty): "{}", wantedText([]impl.Item{web}, s): "web {}",
		string(impl.PlanText(p)): "delete web\nkeep 0\n", string(impl.PlanText(impl.Plan{Acts: []impl.Act{}})): "keep 0\n",
	} {
		if got != want {
			t.Errorf("%s, wanted %s", got, want)
		}
	}
	if q, ok := impl.Only(p, []byte("web")); !ok || !alike(q, p) {
		t.Error(q)
	}
	if q, ok := impl.Only(p, []byte{}); !ok || !alike(q, impl.Plan{}) {
		t.Error(q)
	}
}

// TestPlansOfSharedLists: parts of the arguments may share memory, and those of the answers do not.
func TestPlansOfSharedLists(t *testing.T) {
	name := []byte("a")
	keys := [][]byte{name}
	text := impl.Expr{Kind: impl.ExText, S: name}
	m := impl.Expr{Kind: impl.ExMap, K: keys, Kids: []impl.Expr{text}}
	l := []impl.Item{
		{Kind: impl.ItLocal, Name: name, Exprs: m.Kids},
		{Kind: impl.ItRes, Name: name, Many: impl.MnEach, By: m, Names: keys, Exprs: m.Kids},
		{Kind: impl.ItRes, Name: []byte("b"), Names: [][]byte{name, []byte("b")}, Exprs: []impl.Expr{{Kind: impl.ExRes, S: name}, {Kind: impl.ExRes, S: name}}},
		{Kind: impl.ItOut, Name: name, Exprs: []impl.Expr{{Kind: impl.ExRes, S: name}}},
	}
	v := vMap("a id", vText("x"), vList(vText("y")))
	deps := [][]byte{name, []byte("b")}
	s := impl.State{Serial: 3, Entries: []impl.Entry{{Addr: name, Val: v, Deps: deps, Turned: 1}, {Addr: []byte(`a["a"]`), Val: v, Deps: deps, Turned: 1}, {Addr: []byte("c"), Val: v, Deps: deps, Turned: 1}}}
	p := impl.Plan{Acts: []impl.Act{{Act: 1, Addr: name, Val: v, Deps: deps}, {Act: 1, Addr: name, Val: v, Deps: deps}}}
	for _, old := range []impl.State{s, {Serial: 3, Entries: []impl.Entry{{Addr: name, Val: vMap("z", v), Deps: deps, Turned: 1}, {Addr: []byte("b"), Val: v, Deps: deps, Turned: 1}}}} {
		c := planCase{l, s, old, p, name}
		for what, answer := range planAnswers(c) {
			newMemory(t, what, answer, []any{c})
		}
	}
	if got := planned(l, s); got != `update a["a"] {a = "a"} of 1; create b {a = {a = {a = "a", id = ["y"]}}, b = {a = {a = "a", id = ["y"]}}} of 2 needs a["a"]; delete c; delete a; keep 0` {
		t.Error(got)
	}
}
