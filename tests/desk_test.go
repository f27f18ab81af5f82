package tests

import (
	"math"
	"slices"
	"strconv"
	"strings"
	"testing"

	"loop.example/g00407/impl"
)

// cmdFrom is the command of a text: `apply 7 8: res db { }`, `crash 2`, `compact 3`, `revert 4 9` (the answers stand behind the serial), `resume`.
func cmdFrom(text string) impl.Cmd {
	head, config, _ := strings.Cut(text, ":")
	word, rest, _ := strings.Cut(head, " ")
	c, nums := impl.Cmd{Kind: slices.Index(strings.Fields("apply crash compact revert resume"), word)}, numsOf(rest)
	switch c.Kind {
	case impl.CmApply:
		c.Text, c.Answers = []byte(config), nums
	case impl.CmCrash, impl.CmCompact, impl.CmRevert:
		c.N, c.Answers = nums[0], nums[1:]
	}
	return c
}

func cmdsFrom(l ...string) []impl.Cmd {
	var out []impl.Cmd
	for _, text := range l {
		out = append(out, cmdFrom(text))
	}
	return out
}

// tellsText tells what commands told: of each its code and the codes of its acts.
func tellsText(l []impl.Told) string {
	var out []string
	for _, x := range l {
		out = append(out, strings.TrimSpace(strconv.Itoa(x.Code)+" "+codesText(x.Codes)))
	}
	return strings.Join(out, "; ")
}

// logText tells a history: what it begins from, if that is not nothing, and its events.
func logText(h impl.History) string {
	if alike(h.Base, impl.State{}) {
		return storyText(h, 0)
	}
	return strings.TrimSpace(strings.ReplaceAll(strings.TrimSpace(stateTextByRule(h.Base)), "\n", ", ") + ": " + storyText(h, 0))
}

// runRow has what commands tell, and what comes of them.
type runRow struct {
	cmds []string
	told string
	log  string
}

// runs fails where commands do not tell, or leave, what stands behind them.
func runs(t *testing.T, table []runRow) {
	t.Helper()
	for _, c := range table {
		h, told := impl.Run(cmdsFrom(c.cmds...))
		if tellsText(told) != c.told || logText(h) != c.log || !impl.HistOk(h) {
			t.Errorf("%s:\n%s, wanted\n%s;\n%s, wanted\n%s", strings.Join(c.cmds, ", "), tellsText(told), c.told, logText(h), c.log)
		}
	}
}

func TestDeskConstants(t *testing.T) {
	got := []int{impl.MaxCmds, impl.CmApply, impl.CmCrash, impl.CmCompact, impl.CmRevert, impl.CmResume}
	if !slices.Equal(got, []int{20, 0, 1, 2, 3, 4}) {
		t.Error(got)
	}
}

// cmdByRule tells whether a command may be.
func cmdByRule(c impl.Cmd) bool {
	tooMany := len(c.Answers) > 100 || slices.ContainsFunc(c.Answers, func(n int) bool { return n < 0 || n > 1000000 })
	outOfSerials := c.N < 0 || c.N > 1000000
	switch c.Kind {
	case impl.CmApply:
		return len(c.Text) <= 1200 && c.N == 0 && !tooMany
	case impl.CmCrash, impl.CmCompact:
		return len(c.Text) == 0 && !outOfSerials && len(c.Answers) == 0
	case impl.CmRevert:
		return len(c.Text) == 0 && !outOfSerials && !tooMany
	case impl.CmResume:
		return len(c.Text) == 0 && c.N == 0 && len(c.Answers) == 0
	}
	return false
}

func TestCmdOkPlainly(t *testing.T) {
	hundred := slices.Repeat([]int{7}, 100)
	text := func(n int) []byte { return []byte(strings.Repeat(" ", n)) }
	for why, c := range map[string]impl.Cmd{
		"zero": {}, "apply with empty lists": {Text: []byte{}, Answers: []int{}}, "apply of one byte": {Text: text(1)}, "MaxSource": {Text: text(impl.MaxSource)}, "bytes that are no source": {Text: []byte("\x00\xff#")},
		"an answer of 0": {Answers: []int{0}}, "the greatest answer": {Answers: []int{1000000}}, "100 answers": {Answers: hundred}, "all of it": {Text: text(impl.MaxSource), Answers: hundred},
		"crash 0": {Kind: impl.CmCrash}, "crash 1": {Kind: impl.CmCrash, N: 1}, "crash MaxSerial": {Kind: impl.CmCrash, N: impl.MaxSerial}, "crash with empty lists": {Kind: impl.CmCrash, Text: []byte{}, Answers: []int{}},
		"compact 0": {Kind: impl.CmCompact}, "compact MaxSerial": {Kind: impl.CmCompact, N: impl.MaxSerial}, "compact with empty lists": {Kind: impl.CmCompact, Text: []byte{}, N: 3, Answers: []int{}},
		"revert 0": {Kind: impl.CmRevert}, "revert MaxSerial": {Kind: impl.CmRevert, N: impl.MaxSerial}, "revert with answers": {Kind: impl.CmRevert, N: 5, Answers: []int{0, 1, 1000000}}, "revert with 100": {Kind: impl.CmRevert, Answers: hundred}, "revert with empty lists": {Kind: impl.CmRevert, Text: []byte{}, Answers: []int{}},
		"resume": {Kind: impl.CmResume}, "resume with empty lists": {Kind: impl.CmResume, Text: []byte{}, Answers: []int{}},
	} {
		if !impl.CmdOk(c) || !cmdByRule(c) {
			t.Error(why)
		}
	}
	for why, c := range badCmds() {
		if impl.CmdOk(c) || cmdByRule(c) {
			t.Error(why)
		}
	}
}

// badCmds: commands that may not be, each for one reason.
func badCmds() map[string]impl.Cmd {
	hundred := slices.Repeat([]int{7}, 100)
	out := map[string]impl.Cmd{
		"one below CmApply": {Kind: -1}, "one above CmResume": {Kind: 5}, "the least kind": {Kind: math.MinInt}, "the greatest kind": {Kind: math.MaxInt},
		"MaxSource + 1": {Text: []byte(strings.Repeat(" ", 1201))}, "far too long": {Text: make([]byte, 100000)}, "apply with N": {N: 1}, "apply with N below 0": {N: -1}, "apply with the least N": {N: math.MinInt},
		"crash with Text": {Kind: impl.CmCrash, Text: []byte("a")}, "compact with Text": {Kind: impl.CmCompact, Text: []byte(" ")}, "revert with Text": {Kind: impl.CmRevert, Text: []byte("\x00")}, "resume with Text": {Kind: impl.CmResume, Text: []byte("a")},
		"crash with Answers": {Kind: impl.CmCrash, Answers: []int{0}}, "compact with Answers": {Kind: impl.CmCompact, Answers: []int{1}}, "resume with Answers": {Kind: impl.CmResume, Answers: []int{0}},
		"resume with N": {Kind: impl.CmResume, N: 1}, "resume with N below 0": {Kind: impl.CmResume, N: -1},
	}
	for kind, word := range []string{"apply", "crash", "compact", "revert"} {
		if kind != impl.CmApply {
			for _, n := range []int{-1, impl.MaxSerial + 1, math.MinInt, math.MaxInt} {
				out[word+" "+strconv.Itoa(n)] = impl.Cmd{Kind: kind, N: n}
			}
		}
		if kind == impl.CmApply || kind == impl.CmRevert {
			for _, n := range []int{-1, 1000001, math.MinInt, math.MaxInt} {
				out[word+" with an answer of "+strconv.Itoa(n)] = impl.Cmd{Kind: kind, Answers: []int{1, n}}
			}
			out[word+" with 101 answers"] = impl.Cmd{Kind: kind, Answers: append(hundred, 7)}
		}
	}
	return out
}

// TestCmdOkByRule: each field at its edges, with each other.
func TestCmdOkByRule(t *testing.T) {
	good, bad := answerRows()
	fine, all := 0, 0
	for _, kind := range []int{math.MinInt, -1, 0, 1, 2, 3, 4, 5, math.MaxInt} {
		for _, size := range []int{0, 1, 1199, 1200, 1201, 5000} {
			for _, n := range []int{math.MinInt, -1, 0, 1, 999999, 1000000, 1000001, math.MaxInt} {
				for _, answers := range append(good, bad...) {
					c := impl.Cmd{Kind: kind, Text: make([]byte, size), N: n, Answers: answers}
					all++
					if impl.CmdOk(c) {
						fine++
					}
					if impl.CmdOk(c) != cmdByRule(c) {
						t.Fatal(kind, size, n, answers)
					}
				}
			}
		}
	}
	if fine < 80 || all < 10000 {
		t.Error(fine, all, "the cases tell nothing")
	}
}

// TestRunOfNothing: no commands, MaxCmds and one more.
func TestRunOfNothing(t *testing.T) {
	for _, l := range [][]impl.Cmd{nil, {}} {
		if h, told := impl.Run(l); len(told) > 0 || !alike(h, impl.History{}) {
			t.Error(told, logText(h))
		}
	}
	most := slices.Repeat([]string{"apply 7: res a { }", "apply 7:"}, 10)
	h, told := impl.Run(cmdsFrom(most...))
	if s, _ := impl.HistHead(h); len(told) != 20 || s.Serial != 80 || tellsText(told) != strings.Join(slices.Repeat([]string{"0 done"}, 20), "; ") {
		t.Error(tellsText(told), logText(h))
	}
	for _, more := range []string{"apply:", "crash 0", "resume", "compact 0"} {
		for at := range 21 {
			if h, told := impl.Run(cmdsFrom(slices.Insert(slices.Clone(most), at, more)...)); len(told) > 0 || !alike(h, impl.History{}) {
				t.Error(more, at, tellsText(told), logText(h))
			}
		}
	}
	if h, told := impl.Run(make([]impl.Cmd, 5000)); len(told) > 0 || !alike(h, impl.History{}) {
		t.Error(tellsText(told), logText(h))
	}
}

// TestRunOfWhatMayNotBe: one that may not be, wherever it stands, and nothing at all is done.
func TestRunOfWhatMayNotBe(t *testing.T) {
	l := cmdsFrom("apply 7 8: res db { } res web { x = db.id }", "compact 3", "apply:", "resume", "revert 6 9 9 9", "crash 0")
	if _, told := impl.Run(l); tellsText(told) != "0 done done; 0; 0 stop; 0; 0 done; 0" {
		t.Fatal(tellsText(told))
	}
	for why, c := range badCmds() {
		for at := range len(l) + 1 {
			if h, told := impl.Run(slices.Insert(slices.Clone(l), at, c)); len(told) > 0 || !alike(h, impl.History{}) {
				t.Error(why, at, tellsText(told), logText(h))
			}
		}
		if h, told := impl.Run([]impl.Cmd{c}); len(told) > 0 || !alike(h, impl.History{}) {
			t.Error(why, tellsText(told), logText(h))
		}
	}
}

func TestRunApplies(t *testing.T) {
	made := "begin; intent db create; done db {id = 7}; "
	runs(t, []runRow{
		{[]string{"apply:"}, "0", "begin; end |"}, {[]string{"apply 5 6:  \n "}, "0", "begin; end |"}, {[]string{"apply: local n = 1 out o = $n"}, "0", "begin; end |"},
		{[]string{"apply 7: res db { size = 2 }"}, "0 done", "begin; intent db create; done db {id = 7, size = 2}; end |"}, {[]string{"apply 7 8 9: res db { size = 2 }"}, "0 done", "begin; intent db create; done db {id = 7, size = 2}; end |"}, {[]string{"apply 0: res db { size = 2 }"}, "0 fail", "begin; intent db create; fail db; end |"},
		// Each goes on from what is there.
		{[]string{"apply 7: res db { }", "apply: res db { }"}, "0 done; 0", made + "end; begin; end |"}, {[]string{"apply 7: res db { }", "apply 9: res db { x = 1 }"}, "0 done; 0 done", made + "end; begin; intent db update; done db {id = 7, x = 1}; end |"}, {[]string{"apply 7: res db { }", "apply 9: res db { kind = 1 }"}, "0 done; 0 done", made + "end; begin; intent db replace; done db {id = 9, kind = 1}; end |"},
		{[]string{"apply 7: res db { }", "apply 9:"}, "0 done; 0 done", made + "end; begin; intent db delete; gone db; end |"}, {[]string{"apply 7: res db { }", "apply 8: res db { } res web { x = db.id }"}, "0 done; 0 done", made + "end; begin; intent web create; done web {id = 8, x = 7} needs db; end |"},
		{[]string{"apply 7 0 9: res db { } res web { x = db.id } res zone { x = web.id }"}, "0 done fail skip", made + "intent web create; fail web; end |"},
		// Answers too few: the run stays open, and the next one, whatever it asks for, ends it.
		{[]string{"apply: res db { }"}, "0 stop", "begin; intent db create |"}, {[]string{"apply 7: res db { } res web { }"}, "0 done stop", made + "intent web create |"}, {[]string{"apply: res db { }", "apply 7: res db { }"}, "0 stop; 0 done", "begin; intent db create; reset; begin; intent db replace; done db {id = 7}; end |"}, {[]string{"apply: res db { }", "apply 7:"}, "0 stop; 0 done", "begin; intent db create; reset; begin; intent db delete; gone db; end |"},
		{[]string{"apply: res db { }", "apply: res db { }", "apply:"}, "0 stop; 0 stop; 0 stop", "begin; intent db create; reset; begin; intent db replace; reset; begin; intent db delete |"}, {[]string{"apply 7: res db { }", "apply: res db { x = 1 }", "apply 5: res db { }"}, "0 done; 0 stop; 0 done", made + "end; begin; intent db update; reset; begin; intent db replace; done db {id = 5}; end |"},
	})
	// As many bytes as may be.
	source := "res db { size = 2 }"
	h, told := impl.Run([]impl.Cmd{{Text: []byte(source + strings.Repeat(" ", impl.MaxSource-len(source))), Answers: []int{7}}})
	if tellsText(told) != "0 done" || logText(h) != "begin; intent db create; done db {id = 7, size = 2}; end |" {
		t.Error(tellsText(told), logText(h))
	}
}

// TestRunOfTextsThatCantBeRead: 10 and the reader's code, and nothing is done, not even where a run is open.
func TestRunOfTextsThatCantBeRead(t *testing.T) {
	deep := "local l = " + strings.Repeat("[", 11) + strings.Repeat("]", 11)
	codes := map[int]int{}
	for text, code := range map[string]int{
		"res a { x = # }": impl.RdByte, "local n = 007": impl.RdByte, "#": impl.RdByte, `local t = "a`: impl.RdByte, "local n = 1000000000001": impl.RdByte, "local ninebytes = 1": impl.RdByte,
		"res": impl.RdForm, "res a {": impl.RdForm, "res res { }": impl.RdForm, "local l =": impl.RdForm, "res a { y = 1 x = 2 }": impl.RdForm, "1": impl.RdForm,
		deep: impl.RdBig, "res a { } res a { }": impl.RdBig, strings.Repeat("out o = 1 ", 2): impl.RdBig, "res a { a = 1 b = 1 c = 1 d = 1 e = 1 f = 1 g = 1 }": impl.RdBig, "local n = [" + strings.TrimSuffix(strings.Repeat("1, ", 150), ", ") + "]": impl.RdBig,
	} {
		if _, is, _ := impl.ConfigRead([]byte(text)); is != code {
			t.Errorf("%s: %d", text, is)
		}
		codes[code]++
		want := strconv.Itoa(10 + code)
		runs(t, []runRow{
			{[]string{"apply 7 8: " + text}, want, ""},
			{[]string{"apply 7 8: " + text, "apply 9: res db { }"}, want + "; 0 done", "begin; intent db create; done db {id = 9}; end |"},
			{[]string{"apply 9: res db { }", "apply 7: " + text}, "0 done; " + want, "begin; intent db create; done db {id = 9}; end |"},
			{[]string{"apply: res db { }", "apply 7: " + text, "apply: " + text}, "0 stop; " + want + "; " + want, "begin; intent db create |"},
			{[]string{"apply: res db { }", "apply 7: " + text, "resume"}, "0 stop; " + want + "; 0", "begin; intent db create; reset |"},
		})
	}
	if len(codes) != 3 {
		t.Error(codes)
	}
	// RdLong is none of them: what is so long is not CmdOk.
	if h, told := impl.Run([]impl.Cmd{{}, {Text: []byte(strings.Repeat(" ", impl.MaxSource+1))}}); len(told) > 0 || !alike(h, impl.History{}) {
		t.Error(tellsText(told))
	}
}

// TestRunOfWalksThatAreRefused: Walk's code, no codes of acts, and what Walk has written stays.
func TestRunOfWalksThatAreRefused(t *testing.T) {
	seen := map[int]bool{}
	for _, c := range flawedPlans {
		code := slices.Index(flawWords, c[1])
		seen[code] = true
		want := strconv.Itoa(code)
		runs(t, []runRow{
			{[]string{"apply 7 8: " + c[0]}, want, ""},
			{[]string{"apply 9: res a { }", "apply 7: " + c[0]}, "0 done; " + want, "begin; intent a create; done a {id = 9}; end |"},
			{[]string{"apply: res a { }", "apply 7: " + c[0]}, "0 stop; " + want, "begin; intent a create; reset |"},
			{[]string{"apply: res a { }", "apply 7: " + c[0], "apply 7: " + c[0], "resume"}, "0 stop; " + want + "; " + want + "; 9", "begin; intent a create; reset |"},
			{[]string{"apply: res a { }", "apply 7: " + c[0], "apply 5: res a { }"}, "0 stop; " + want + "; 0 done", "begin; intent a create; reset; begin; intent a replace; done a {id = 5}; end |"},
		})
	}
	if len(seen) != 6 || seen[impl.CfWell] || seen[impl.CfForm] {
		t.Error(seen, "a code lacks")
	}
	// What had a value while it was unknown may have none now.
	text := ": res a { } res b { x = !a.id }"
	runs(t, []runRow{{[]string{"apply 5 6" + text, "apply 7" + text}, "0 done value; 3", "begin; intent a create; done a {id = 5}; end |"}, {[]string{"apply" + text, "apply 7" + text}, "0 stop; 0 done value", "begin; intent a create; reset; begin; intent a replace; done a {id = 7}; end |"}})
}

// TestRunCrashes: all that a walk leaves is Safe, but where there is no room left (see the limits).
func TestRunCrashes(t *testing.T) {
	ended, broken := "begin; intent db create; done db {id = 7}; end |", "begin; intent db create; done db {id = 7}; intent web create |"
	for _, n := range []string{"0", "1", "2", "300", "999999", "1000000"} {
		runs(t, []runRow{
			{[]string{"crash " + n}, "0", ""}, {[]string{"crash " + n, "crash " + n}, "0; 0", ""}, {[]string{"crash " + n, "apply 7: res db { }"}, "0; 0 done", ended},
			{[]string{"apply 7: res db { }", "crash " + n}, "0 done; 0", ended}, {[]string{"apply 7: res db { } res web { }", "crash " + n}, "0 done stop; 0", broken}, {[]string{"apply 7: res db { }", "crash " + n, "compact 4", "crash " + n}, "0 done; 0; 0; 0", "serial 4, db 3 {id = 7}:"},
			{[]string{"apply 7: res db { } res web { }", "crash " + n, "apply 8: res db { } res web { }"}, "0 done stop; 0; 0 done", strings.TrimSuffix(broken, " |") + "; reset; begin; intent web replace; done web {id = 8}; end |"},
		})
	}
}

func TestRunCompacts(t *testing.T) {
	made := "apply 7: res db { }"
	runs(t, []runRow{
		{[]string{"compact 0"}, "0", ""}, {[]string{"compact 1"}, "9", ""}, {[]string{"compact 1000000"}, "9", ""},
		{[]string{made, "compact 0"}, "0 done; 0", "begin; intent db create; done db {id = 7}; end |"}, {[]string{made, "compact 1"}, "0 done; 0", "serial 1, open: intent db create; done db {id = 7}; end |"}, {[]string{made, "compact 2"}, "0 done; 0", "serial 2, open create db: done db {id = 7}; end |"},
		{[]string{made, "compact 3"}, "0 done; 0", "serial 3, open, db 3 {id = 7}: end |"}, {[]string{made, "compact 4"}, "0 done; 0", "serial 4, db 3 {id = 7}:"}, {[]string{made, "compact 5"}, "0 done; 9", "begin; intent db create; done db {id = 7}; end |"}, {[]string{made, "compact 1000000"}, "0 done; 9", "begin; intent db create; done db {id = 7}; end |"},
		// Once more: to the floor and above, not below.
		{[]string{made, "compact 3", "compact 2"}, "0 done; 0; 9", "serial 3, open, db 3 {id = 7}: end |"}, {[]string{made, "compact 3", "compact 3"}, "0 done; 0; 0", "serial 3, open, db 3 {id = 7}: end |"}, {[]string{made, "compact 3", "compact 4"}, "0 done; 0; 0", "serial 4, db 3 {id = 7}:"}, {[]string{made, "compact 4", "compact 0"}, "0 done; 0; 9", "serial 4, db 3 {id = 7}:"},
		// What is under way stays so, and what comes behind goes on from it.
		{[]string{"apply: res db { }", "compact 2"}, "0 stop; 0", "serial 2, open create db:"}, {[]string{"apply: res db { }", "compact 2", "resume"}, "0 stop; 0; 0", "serial 2, open create db: reset |"}, {[]string{"apply: res db { }", "compact 2", "apply 5:"}, "0 stop; 0; 0 done", "serial 2, open create db: reset; begin; intent db delete; gone db; end |"},
		{[]string{"apply: res db { }", "resume", "compact 3", "apply 8: res db { }"}, "0 stop; 0; 0; 0 done", "serial 3, db 3 tainted {}: begin; intent db replace; done db {id = 8}; end |"}, {[]string{made, "compact 4", "apply 8: res db { x = 1 }"}, "0 done; 0; 0 done", "serial 4, db 3 {id = 7}: begin; intent db update; done db {id = 7, x = 1}; end |"},
	})
}

func TestRunReverts(t *testing.T) {
	made := "begin; intent db create; done db {id = 7, x = 1}; end; "
	up, down := "apply 7: res db { x = 1 }", "apply 7:"
	gone := made + "begin; intent db delete; gone db; end"
	runs(t, []runRow{
		{[]string{"revert 0"}, "0", "begin; end |"}, {[]string{"revert 0 5 6"}, "0", "begin; end |"}, {[]string{"revert 1"}, "9", ""}, {[]string{"revert 1000000 5"}, "9", ""},
		// To what was, and to what is.
		{[]string{up, down, "revert 4 9"}, "0 done; 0 done; 0 done", gone + "; begin; intent db create; done db {id = 9, x = 1}; end |"}, {[]string{up, down, "revert 3 9"}, "0 done; 0 done; 0 done", gone + "; begin; intent db create; done db {id = 9, x = 1}; end |"}, {[]string{up, down, "revert 8 9"}, "0 done; 0 done; 0", gone + "; begin; end |"},
		{[]string{up, "revert 0 9"}, "0 done; 0 done", made + "begin; intent db delete; gone db; end |"}, {[]string{up, "revert 4"}, "0 done; 0", made + "begin; end |"}, {[]string{up, "apply 8: res db { x = 2 }", "revert 4 9"}, "0 done; 0 done; 0 done", made + "begin; intent db update; done db {id = 7, x = 2}; end; begin; intent db update; done db {id = 7, x = 1}; end |"}, {[]string{up, "apply 8: res db { kind = 2 }", "revert 4 9"}, "0 done; 0 done; 0 done", made + "begin; intent db replace; done db {id = 8, kind = 2}; end; begin; intent db replace; done db {id = 9, x = 1}; end |"},
		// Answers: one that says it failed, and too few.
		{[]string{up, down, "revert 4 0"}, "0 done; 0 done; 0 fail", gone + "; begin; intent db create; fail db; end |"}, {[]string{up, down, "revert 4"}, "0 done; 0 done; 0 stop", gone + "; begin; intent db create |"}, {[]string{up, down, "revert 4", "revert 4 5"}, "0 done; 0 done; 0 stop; 0 done", gone + "; begin; intent db create; reset; begin; intent db replace; done db {id = 5, x = 1}; end |"},
		// Serials that are not there: nothing is done.
		{[]string{up, "revert 5 9"}, "0 done; 9", strings.TrimSuffix(made, "; ") + " |"}, {[]string{up, "revert 1000000 9"}, "0 done; 9", strings.TrimSuffix(made, "; ") + " |"}, {[]string{up, "compact 4", "revert 3 9"}, "0 done; 0; 9", "serial 4, db 3 {id = 7, x = 1}:"}, {[]string{up, "compact 3", "revert 3 9"}, "0 done; 0; 0", "serial 3, open, db 3 {id = 7, x = 1}: end; begin; end |"},
		// A run that is open is ended, but not by one that is refused.
		{[]string{"apply: res db { }", "revert 0 9"}, "0 stop; 0 done", "begin; intent db create; reset; begin; intent db delete; gone db; end |"}, {[]string{"apply: res db { }", "revert 3 9"}, "0 stop; 9", "begin; intent db create |"}, {[]string{"apply: res db { }", "revert 2"}, "0 stop; 0 stop", "begin; intent db create; reset; begin; intent db delete |"},
	})
}

func TestRunResumes(t *testing.T) {
	broken := "begin; intent db create; reset"
	runs(t, []runRow{
		{[]string{"resume"}, "9", ""}, {[]string{"resume", "resume"}, "9; 9", ""}, {[]string{"apply:", "resume"}, "0; 9", "begin; end |"}, {[]string{"apply 7: res db { }", "resume"}, "0 done; 9", "begin; intent db create; done db {id = 7}; end |"}, {[]string{"apply 0: res db { }", "resume"}, "0 fail; 9", "begin; intent db create; fail db; end |"},
		{[]string{"apply: res db { }", "resume"}, "0 stop; 0", broken + " |"}, {[]string{"apply: res db { }", "resume", "resume"}, "0 stop; 0; 9", broken + " |"}, {[]string{"apply: res db { }", "crash 0", "resume"}, "0 stop; 0; 0", broken + " |"}, {[]string{"apply: res db { }", "resume", "crash 0", "resume"}, "0 stop; 0; 0; 9", broken + " |"},
		{[]string{"apply 7: res db { }", "revert 0", "resume"}, "0 done; 0 stop; 0", "begin; intent db create; done db {id = 7}; end; begin; intent db delete; reset |"}, {[]string{"apply: res db { }", "compact 1", "resume"}, "0 stop; 0; 0", "serial 1, open: intent db create; reset |"},
	})
	// What was under way is tainted, whatever was to be done with it, and has the value that it had; where all was as it should be, the run ended.
	for last, want := range map[string]string{
		"apply: res db { x = 1 } res web { }": "serial 7\ndb 3 {id = 7, x = 1}\nweb 7 tainted {}\n", "apply: res db { x = 2 }": "serial 7\ndb 7 tainted {id = 7, x = 1}\n", "apply: res db { kind = 2 }": "serial 7\ndb 7 tainted {id = 7, x = 1}\n",
		"apply:": "serial 7\ndb 7 tainted {id = 7, x = 1}\n", "revert 0": "serial 7\ndb 7 tainted {id = 7, x = 1}\n", "apply: res db { x = 1 }": "serial 6\ndb 3 {id = 7, x = 1}\n", "revert 3": "serial 6\ndb 3 {id = 7, x = 1}\n",
	} {
		h, _ := impl.Run(cmdsFrom("apply 7: res db { x = 1 }", last, "resume"))
		head, _ := impl.HistHead(h)
		if got := string(impl.StateText(head)); got != want {
			t.Errorf("%s: %q, wanted %q", last, got, want)
		}
	}
}

// TestRunGoesOnBehindWhatIsRefused: what tells 9, or what can't be read, changes nothing for those behind it.
func TestRunGoesOnBehindWhatIsRefused(t *testing.T) {
	l := []string{"apply 7 8: res db { } res web { x = db.id }", "apply: res db { }", "revert 6 5 6 7", "compact 9", "apply 4 4: res db { kind = 1 } res web { x = db.id }"}
	want, wantTold := impl.Run(cmdsFrom(l...))
	for at := range len(l) + 1 {
		for _, idle := range []string{"compact 1000000", "revert 1000000 1", "apply 5: res", "apply 5: #"} {
			h, told := impl.Run(cmdsFrom(slices.Insert(slices.Clone(l), at, idle)...))
			if len(told) != len(l)+1 || told[at].Code < 9 || len(told[at].Codes) > 0 {
				t.Fatal(at, idle, tellsText(told))
			}
			if !alike(h, want) || !alike(slices.Delete(told, at, at+1), wantTold) {
				t.Error(at, idle, tellsText(told), logText(h))
			}
		}
	}
}
