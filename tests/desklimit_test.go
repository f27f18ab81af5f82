package tests

import (
	"slices"
	"strings"
	"testing"

	"loop.example/g00407/impl"
)

// doneText tells that so many acts were done.
func doneText(n int) string { return "0" + strings.Repeat(" done", n) }

// onesCmd is the command that there shall be so many ones, with answers enough.
func onesCmd(n int) string { return "apply " + strings.Repeat("7 ", 32) + ": " + manyOnes(n) }

// nearlyFull are commands that leave 275 events, all of them Safe, no entries and nothing open; and what they tell.
func nearlyFull() ([]string, string) {
	cmds := []string{"apply: " + manyOnes(16), "resume"}
	told := []string{"0 stop", "0"}
	for range 4 {
		cmds = append(cmds, onesCmd(16), onesCmd(0))
		told = append(told, doneText(16), doneText(16))
	}
	return cmds, strings.Join(told, "; ")
}

// limitRow has what commands tell behind nearlyFull, how many events there are then, how many of them are Safe, and the last one.
type limitRow struct {
	cmds   []string
	told   string
	events int
	safe   int
	last   string
	open   string // the line of the head that tells it
}

// runsInto fails where commands behind nearlyFull do not tell, or leave, what stands behind them.
func runsInto(t *testing.T, table []limitRow) {
	t.Helper()
	begin, ahead := nearlyFull()
	for _, c := range table {
		what := strings.Join(c.cmds, ", ")
		h, told := impl.Run(cmdsFrom(append(slices.Clip(begin), c.cmds...)...))
		if got := strings.TrimPrefix(tellsText(told), ahead+"; "); got != c.told {
			t.Errorf("%s: %s, wanted %s", what, got, c.told)
		}
		head, ok := impl.HistHead(h)
		open := strings.Split(stateTextByRule(head), "\n")[1]
		if !head.Open {
			open = ""
		}
		last := eventTextByRule(h.Events[len(h.Events)-1])
		if !ok || len(h.Events) != c.events || h.Safe != c.safe || last != c.last || open != c.open {
			t.Errorf("%s: %d events, %d are safe, the last is %s, %q; wanted %d, %d, %s, %q", what, len(h.Events), h.Safe, last, open, c.events, c.safe, c.last, c.open)
		}
	}
}

func TestRunNearlyFull(t *testing.T) {
	cmds, want := nearlyFull()
	h, told := impl.Run(cmdsFrom(cmds...))
	head, _ := impl.HistHead(h)
	if tellsText(told) != want || len(h.Events) != 275 || h.Safe != 275 || stateTextByRule(head) != "serial 275\n" {
		t.Error(tellsText(told), len(h.Events), h.Safe, stateTextByRule(head))
	}
}

// TestRunToMaxEvents: what does not fit any more, and what a crash then takes.
func TestRunToMaxEvents(t *testing.T) {
	sixteen, cut := onesCmd(16), doneText(12)+" full"
	done := "done mc[1] {id = 7}"
	runsInto(t, []limitRow{
		// The last event is not Safe: a crash takes it, but for one that leaves one more.
		{[]string{sixteen}, cut, 300, 299, done, "open"}, {[]string{sixteen, "crash 0"}, cut + "; 0", 299, 299, "intent mc[1] create", "open create mc[1]"}, {[]string{sixteen, "crash 1"}, cut + "; 0", 300, 300, done, "open"}, {[]string{sixteen, "crash 1000000"}, cut + "; 0", 300, 300, done, "open"}, {[]string{sixteen, "crash 1", "crash 0"}, cut + "; 0; 0", 300, 300, done, "open"}, {[]string{sixteen, "crash 0", "crash 1"}, cut + "; 0; 0", 299, 299, "intent mc[1] create", "open create mc[1]"},
		// All acts were done, but there is no room for the end.
		{[]string{onesCmd(12)}, doneText(12), 300, 299, done, "open"}, {[]string{onesCmd(12), "crash 0"}, doneText(12) + "; 0", 299, 299, "intent mc[1] create", "open create mc[1]"},
		// No room for anything: an apply tells CfBig, or what is wrong ahead of that; all else is refused.
		{[]string{sixteen, "apply 7:"}, cut + "; 6", 300, 299, done, "open"}, {[]string{sixteen, "apply 7: res a { x = a }"}, cut + "; 2", 300, 299, done, "open"}, {[]string{sixteen, "apply 7: res"}, cut + "; 13", 300, 299, done, "open"}, {[]string{sixteen, "resume"}, cut + "; 9", 300, 299, done, "open"}, {[]string{sixteen, "revert 0 7"}, cut + "; 9", 300, 299, done, "open"}, {[]string{sixteen, "revert 300 7"}, cut + "; 9", 300, 299, done, "open"}, {[]string{sixteen, "revert 301 7"}, cut + "; 9", 300, 299, done, "open"},
		// Room for EvReset alone: it stays behind an apply that is refused, and behind a resume; a revert that is refused leaves all as it was.
		{[]string{sixteen, "crash 0", "apply 7:"}, cut + "; 0; 6", 300, 300, "reset", ""}, {[]string{sixteen, "crash 0", "apply 7: res a { x = a }"}, cut + "; 0; 2", 300, 300, "reset", ""}, {[]string{sixteen, "crash 0", "apply 7: res"}, cut + "; 0; 13", 299, 299, "intent mc[1] create", "open create mc[1]"}, {[]string{sixteen, "crash 0", "resume"}, cut + "; 0; 0", 300, 300, "reset", ""}, {[]string{sixteen, "crash 0", "revert 0 7"}, cut + "; 0; 9", 299, 299, "intent mc[1] create", "open create mc[1]"}, {[]string{sixteen, "crash 0", "revert 299 7"}, cut + "; 0; 9", 299, 299, "intent mc[1] create", "open create mc[1]"},
		{[]string{sixteen, "crash 0", "revert 0 7", "resume", "resume", "revert 0 7", "apply 7:"}, cut + "; 0; 9; 0; 9; 9; 6", 300, 300, "reset", ""}, {[]string{sixteen, "crash 0", "apply 7:", "resume", "apply 7:", "revert 300"}, cut + "; 0; 6; 9; 6; 9", 300, 300, "reset", ""},
		// Room for EvBegin alone.
		{[]string{onesCmd(11)}, doneText(11), 299, 299, "end", ""}, {[]string{onesCmd(11), "apply 7:"}, doneText(11) + "; 0 full", 300, 300, "begin", "open"}, {[]string{onesCmd(11), onesCmd(11)}, doneText(11) + "; 0", 300, 300, "begin", "open"}, {[]string{onesCmd(11), "revert 299"}, doneText(11) + "; 0", 300, 300, "begin", "open"}, {[]string{onesCmd(11), "revert 0 7"}, doneText(11) + "; 0 full", 300, 300, "begin", "open"}, {[]string{onesCmd(11), "revert 299", "resume", "crash 0"}, doneText(11) + "; 0; 9; 0", 300, 300, "begin", "open"}, {[]string{onesCmd(11), "resume"}, doneText(11) + "; 9", 299, 299, "end", ""},
	})
}

// TestRunMakesRoomAgain: what is Safe can be forgotten, and then there is room for as many events.
func TestRunMakesRoomAgain(t *testing.T) {
	sixteen, cut := onesCmd(16), doneText(12)+" full"
	done := "done mc[1] {id = 7}"
	runsInto(t, []limitRow{
		{[]string{sixteen, "compact 300"}, cut + "; 9", 300, 299, done, "open"}, {[]string{sixteen, "compact 299"}, cut + "; 0", 1, 0, done, "open"}, {[]string{sixteen, "compact 299", "crash 1"}, cut + "; 0; 0", 1, 1, done, "open"}, {[]string{sixteen, "compact 1"}, cut + "; 0", 299, 298, done, "open"}, {[]string{sixteen, "compact 1", "resume"}, cut + "; 0; 0", 300, 300, "reset", ""}, {[]string{sixteen, "compact 1", "revert 1 7"}, cut + "; 0; 9", 299, 298, done, "open"}, {[]string{sixteen, "compact 1", "apply 7:"}, cut + "; 0; 6", 300, 300, "reset", ""}, {[]string{sixteen, "compact 2", "revert 2 7"}, cut + "; 0; 0 full", 300, 300, "begin", "open"},
		{[]string{sixteen, "compact 275", sixteen}, cut + "; 0; " + doneText(4), 36, 36, "end", ""}, {[]string{sixteen, "crash 1", "compact 300", sixteen}, cut + "; 0; 0; " + doneText(4), 11, 11, "end", ""}, {[]string{sixteen, "crash 0", "compact 299", sixteen}, cut + "; 0; 0; " + doneText(5), 13, 13, "end", ""},
		{[]string{onesCmd(12), "compact 276", onesCmd(12)}, doneText(12) + "; 0; 0", 27, 27, "end", ""},
	})
	// What was lost is made anew, and what was not is kept.
	begin, _ := nearlyFull()
	for crash, want := range map[string]string{"crash 0": "mc[1] 303 {id = 9}", "crash 1": "mc[1] 300 {id = 7}"} {
		h, _ := impl.Run(cmdsFrom(append(slices.Clip(begin), sixteen, crash, "compact 299", "apply 9 9 9 9 9: "+manyOnes(16))...))
		head, _ := impl.HistHead(h)
		lines := strings.Split(string(impl.StateText(head)), "\n")
		if len(lines) != 18 || !slices.Contains(lines, want) || !slices.Contains(lines, "mc[0] 298 {id = 7}") || head.Open || len(impl.Tainted(head)) > 0 {
			t.Errorf("%s: %q", crash, lines)
		}
	}
	// Behind a crash that took the event behind the floor there is nothing left of it.
	h, _ := impl.Run(cmdsFrom(append(slices.Clip(begin), sixteen, "compact 299", "crash 0")...))
	if len(h.Events) != 0 || h.Safe != 0 || h.Base.Serial != 299 || string(h.Base.Pending) != "mc[1]" {
		t.Error(logText(h))
	}
}

// TestRunToMaxEntries: no more are created until some are gone, and a run that is broken off may take the last place.
func TestRunToMaxEntries(t *testing.T) {
	fives := strings.Repeat("5 ", 32)
	others := "apply " + fives + ": res xa { } res xb { x = xa.id } res xc { }"
	gone := func(n int) string { return strings.Repeat(" done", n) }
	for _, c := range []struct {
		cmds []string
		told string
		are  int
	}{
		{[]string{onesCmd(16)}, doneText(16), 16}, {[]string{onesCmd(17)}, "6", 0}, {[]string{onesCmd(16), onesCmd(17)}, doneText(16) + "; 6", 16}, {[]string{onesCmd(15), onesCmd(16)}, doneText(15) + "; 0 done", 16}, {[]string{onesCmd(16), onesCmd(16)}, doneText(16) + "; 0", 16},
		{[]string{onesCmd(16), others}, doneText(16) + "; 0 full skip full" + gone(16), 0}, {[]string{onesCmd(16), others, others}, doneText(16) + "; 0 full skip full" + gone(16) + "; " + doneText(3), 3}, {[]string{onesCmd(15), others}, doneText(15) + "; 0 done full full" + gone(15), 1}, {[]string{onesCmd(15), others, others}, doneText(15) + "; 0 done full full" + gone(15) + "; 0 done done", 3}, {[]string{onesCmd(14), others}, doneText(14) + "; 0 done done full" + gone(14), 2},
		// What was to be created may be there: it takes a place, and so does what failed to go.
		{[]string{onesCmd(15), "apply: res z { } " + manyOnes(15)}, doneText(15) + "; 0 stop", 15}, {[]string{onesCmd(15), "apply: res z { } " + manyOnes(15), "resume"}, doneText(15) + "; 0 stop; 0", 16}, {[]string{onesCmd(15), "apply: res z { } " + manyOnes(15), onesCmd(16)}, doneText(15) + "; 0 stop; 0 full done", 15}, {[]string{onesCmd(15), "apply: res z { } " + manyOnes(15), onesCmd(16), onesCmd(16)}, doneText(15) + "; 0 stop; 0 full done; 0 done", 16},
		{[]string{onesCmd(16), "apply 0: " + manyOnes(15), "apply 0: res z { } " + manyOnes(15), "apply 5 5: res z { } " + manyOnes(15)}, doneText(16) + "; 0 fail; 0 full fail; 0 full done", 15},
		// Going back needs room as well.
		{[]string{onesCmd(16), others, others, "revert 34 " + fives}, doneText(16) + "; 0 full skip full" + gone(16) + "; " + doneText(3) + "; 0" + gone(13) + " full full full" + gone(3), 13},
	} {
		h, told := impl.Run(cmdsFrom(c.cmds...))
		head, ok := impl.HistHead(h)
		if tellsText(told) != c.told || len(head.Entries) != c.are || !ok {
			t.Errorf("%s: %s, %d entries; wanted %s, %d", strings.Join(c.cmds, ", "), tellsText(told), len(head.Entries), c.told, c.are)
		}
	}
}
