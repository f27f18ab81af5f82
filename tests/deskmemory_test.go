package tests

import (
	"maps"
	"math"
	"slices"
	"strings"
	"testing"

	"loop.example/g00407/impl"
)

// looseCmds copies commands with marked room behind each list: what lies there would be read, asked for and done.
func looseCmds(l []impl.Cmd) []impl.Cmd {
	var out []impl.Cmd
	for _, c := range l {
		out = append(out, impl.Cmd{Kind: c.Kind, Text: roomyOf(c.Text, '#'), N: c.N, Answers: roomyOf(c.Answers, 9)})
	}
	return roomyOf(out, cmdFrom("apply 5: res behind { }"))
}

// deskAnswers are all that the functions of the chapter say of these.
func deskAnswers(l []impl.Cmd, s impl.State, e impl.Event) map[string][]any {
	out := map[string][]any{}
	h, told := impl.Run(l)
	out["Run"] = []any{h, told}
	var fine []bool
	for _, c := range l {
		fine = append(fine, impl.CmdOk(c))
	}
	out["CmdOk"] = []any{fine}
	out["StateText"] = []any{impl.StateText(s)}
	out["EventText"] = []any{impl.EventText(e)}
	return out
}

// wildCmd draws a command that may be anything.
func (d *draw) wildCmd() impl.Cmd {
	num := func() int {
		return []int{math.MinInt, -1, 0, 0, 0, 1, 4, 1000000, 1000001, math.MaxInt}[d.upTo(10)]
	}
	c := impl.Cmd{Kind: d.upTo(7) - 1, N: num()}
	if d.upTo(2) == 0 {
		c.Text = []byte(strings.Repeat("res \x00\xff", d.upTo(240)))
	}
	for range d.upTo(3) * d.upTo(60) {
		c.Answers = append(c.Answers, num())
	}
	return c
}

// finite are the things of a table, but for those that go too deep to be copied.
func finite[T any](table map[string]T) []T {
	var out []T
	for _, why := range slices.Sorted(maps.Keys(table)) {
		if !strings.Contains(why, "in itself") {
			out = append(out, table[why])
		}
	}
	return out
}

// eachDeskCase calls with commands, states and events of which all, some or none may be.
func eachDeskCase(call func(l []impl.Cmd, s impl.State, e impl.Event)) {
	d := draw(61)
	states := slices.Concat(drawnStates(200), finite(goodStates()), finite(badStates()))
	events := slices.Concat(goodEvents(), drawnEvents(200), finite(badEvents()))
	var rows [][]impl.Cmd
	for r := range drawnRuns(12, impl.MaxCmds) {
		rows = append(rows, r.cmds, r.cmds[:5])
	}
	for _, c := range finite(badCmds()) {
		rows = append(rows, []impl.Cmd{c}, append(slices.Clip(rows[1]), c))
	}
	rows = append(rows, nil, make([]impl.Cmd, 20), make([]impl.Cmd, 21))
	for range 30 {
		rows = append(rows, []impl.Cmd{d.wildCmd(), {}, d.wildCmd()}, []impl.Cmd{d.wildCmd()})
	}
	for i := range max(len(rows), len(states), len(events)) {
		var l []impl.Cmd
		if i < len(rows) {
			l = rows[i]
		}
		call(l, states[i%len(states)], events[i%len(events)])
	}
}

func TestDeskConventions(t *testing.T) {
	told, written := 0, 0
	eachDeskCase(func(l []impl.Cmd, s impl.State, e impl.Event) {
		type given struct {
			L []impl.Cmd
			S impl.State
			E impl.Event
		}
		plainly := deskAnswers(l, s, e)
		wide := given{looseCmds(l), looseState(s), looseEvent(e)}
		var answers map[string][]any
		stays(t, "the desk", wide, func() { answers = deskAnswers(wide.L, wide.S, wide.E) })
		for name, answer := range answers {
			newMemory(t, name, answer, []any{wide})
			for i := range answer {
				if !alike(answer[i], plainly[name][i]) {
					t.Errorf("%s of %v: the room behind a list plays a part", name, l)
				}
			}
		}
		told += len(answers["Run"][1].([]impl.Told))
		written += len(answers["StateText"][0].([]byte)) + len(answers["EventText"][0].([]byte))
	})
	if told < 300 || written < 10000 {
		t.Error(told, written, "the cases tell nothing")
	}
}

// TestBesideARunThatIsRefused: the zero value and nothing; else something is told of each.
func TestBesideARunThatIsRefused(t *testing.T) {
	good, bad := 0, 0
	eachDeskCase(func(l []impl.Cmd, s impl.State, e impl.Event) {
		h, told := impl.Run(l)
		if len(l) > 20 || slices.ContainsFunc(l, func(c impl.Cmd) bool { return !cmdByRule(c) }) {
			bad++
			if len(told) > 0 || !alike(h, impl.History{}) {
				t.Error(tellsText(told), logText(h))
			}
			return
		}
		good++
		if len(told) != len(l) || !impl.HistOk(h) {
			t.Error(tellsText(told), logText(h))
		}
		for i, x := range told {
			if x.Code != 0 && len(x.Codes) > 0 || len(x.Codes) > 0 && l[i].Kind != impl.CmApply && l[i].Kind != impl.CmRevert {
				t.Error(tellsText(told))
			}
		}
		if got := impl.StateText(s); (len(got) > 0) != stateByRule(s) {
			t.Errorf("%q", got)
		}
		if got := impl.EventText(e); (len(got) > 0) != eventByRule(e) {
			t.Errorf("%q", got)
		}
	})
	if good < 30 || bad < 30 {
		t.Error(good, bad, "the cases tell nothing")
	}
}

// TestTheDeskHangsOnNothingElse asks for the same again and again, with others between, and writes into each answer.
func TestTheDeskHangsOnNothingElse(t *testing.T) {
	mine := cmdsFrom("apply 5 6 7: res db { } res web count 2 { x = db.id }", "apply 9: res db { kind = 1 } res web count 1 { x = [db.id] }", "compact 9", "crash 1", "resume", "revert 9 4 4 4 4", "apply: res", "apply: res a { x = a }", "revert 2")
	s, e := busy(9, "db", impl.AcUpdate, entry("db", 3, vMap("k", vText("x")), "web")), evDone("db", vMap("k", vList(vText("y"))), "web")
	want := deskAnswers(mine, s, e)
	if got := tellsText(want["Run"][1].([]impl.Told)); got != "0 done done done; 0 done stop; 0; 0; 0; 0 done done; 13; 2; 9" {
		t.Fatal(got)
	}
	eachDeskCase(func(l []impl.Cmd, others impl.State, other impl.Event) {
		if len(l) == 0 {
			return
		}
		deskAnswers(l, others, other)
		got := deskAnswers(mine, s, e)
		for name, answer := range got {
			for i := range answer {
				if !alike(answer[i], want[name][i]) {
					t.Fatal(name, answer)
				}
			}
		}
		overwriteHistory(got["Run"][0].(impl.History))
		for _, x := range got["Run"][1].([]impl.Told) {
			for i := range x.Codes {
				x.Codes[i] = 99
			}
		}
		overwriteTexts([][]byte{got["StateText"][0].([]byte), got["EventText"][0].([]byte)})
	})
}

// TestRunOfEmptyLists: an empty list and nil are the same.
func TestRunOfEmptyLists(t *testing.T) {
	l := []impl.Cmd{
		{Text: []byte{}, Answers: []int{}}, {Text: []byte("res a { }"), Answers: []int{}}, {Kind: impl.CmCrash, Text: []byte{}, Answers: []int{}}, {Kind: impl.CmCompact, Text: []byte{}, N: 2, Answers: []int{}},
		{Kind: impl.CmResume, Text: []byte{}, Answers: []int{}}, {Kind: impl.CmRevert, Text: []byte{}, N: 5, Answers: []int{}},
	}
	h, told := impl.Run(l)
	want, wantTold := impl.Run(cmdsFrom("apply:", "apply: res a { }", "crash 0", "compact 2", "resume", "revert 5"))
	if !alike(h, want) || !alike(told, wantTold) || tellsText(told) != "0; 0 stop; 0; 0; 0; 0 stop" {
		t.Error(tellsText(told), logText(h))
	}
	for _, c := range l {
		if !impl.CmdOk(c) {
			t.Error(c)
		}
	}
	empty := impl.State{Serial: 9, Pending: []byte{}, Entries: []impl.Entry{{Addr: []byte("a"), Val: impl.Value{Kind: impl.VkMap, S: []byte{}, K: [][]byte{}, L: []impl.Value{}}, Deps: [][]byte{}, Turned: 2}}}
	if got := string(impl.StateText(empty)); got != "serial 9\na 2 {}\n" {
		t.Errorf("%q", got)
	}
}

// TestRunOfSharedLists: commands may share memory with each other, and what they tell does not.
func TestRunOfSharedLists(t *testing.T) {
	text, answers := []byte(`res web { x = "t" } res db { y = web.id z = web }`), []int{5, 6, 7}
	l := []impl.Cmd{{Text: text, Answers: answers}, {Text: text[:19], Answers: answers[1:]}, {Text: text, Answers: answers[:1]}, {Kind: impl.CmRevert, N: 6, Answers: answers}, {Kind: impl.CmRevert, N: 6, Answers: answers}, {Text: text, Answers: answers}}
	h, told := impl.Run(l)
	newMemory(t, "Run", []any{h, told}, []any{l})
	if got := tellsText(told); got != "0 done done; 0 done; 0 done; 0; 0; 0" || string(text) != `res web { x = "t" } res db { y = web.id z = web }` || numsText(answers) != "5 6 7" {
		t.Error(got)
	}
	again, _ := impl.Run(l)
	if !alike(h, again) {
		t.Error(logText(again))
	}
}
