package tests

import (
	"slices"
	"strconv"
	"strings"
	"testing"

	"loop.example/g00407/impl"
)

// The chapter once more, by its words, over the rules of the chapters ahead of it.

// compactByRule forgets the events up to a serial; false where that may not be.
func compactByRule(h impl.History, floor int) (impl.History, bool) {
	gone := floor - h.Base.Serial
	if gone < 0 || gone > h.Safe {
		return impl.History{}, false
	}
	states, _ := statesByRule(h)
	return histOf(states[gone], h.Safe-gone, h.Events[gone:]...), true
}

// commandByRule is what a command that may be makes of h, and what it tells.
func commandByRule(h impl.History, c impl.Cmd) (impl.History, impl.Told) {
	next, told, ok := h, impl.Told{}, true
	switch c.Kind {
	case impl.CmApply:
		l, code, _ := configReadByRule(string(c.Text))
		if code != impl.RdWell {
			return h, impl.Told{Code: 10 + code}
		}
		next, told.Codes, told.Code = walkByRule(h, l, c.Answers)
	case impl.CmCrash:
		next = crashByRule(h, c.N)
	case impl.CmCompact:
		next, ok = compactByRule(h, c.N)
	case impl.CmRevert:
		next, told.Codes, ok = revertByRule(h, c.N, c.Answers)
	case impl.CmResume:
		next, ok = resumeByRule(h)
	}
	if !ok {
		return h, impl.Told{Code: 9}
	}
	return next, told
}

// drawnRun is a row of commands, what there was ahead of each of them and behind the last one, and what they tell.
type drawnRun struct {
	cmds []impl.Cmd
	logs []impl.History
	told []impl.Told
}

// then lets c be done behind all.
func (r *drawnRun) then(c impl.Cmd) {
	next, told := commandByRule(r.logs[len(r.logs)-1], c)
	r.cmds, r.logs, r.told = append(r.cmds, c), append(r.logs, next), append(r.told, told)
}

func (r *drawnRun) text() string {
	var out []string
	for _, c := range r.cmds {
		out = append(out, strings.TrimSpace(strings.Fields("apply crash compact revert resume")[c.Kind]+" "+strconv.Itoa(c.N)+" "+numsText(c.Answers)+": "+string(c.Text)))
	}
	return strings.Join(out, "\n")
}

// sources draws texts of configurations, some of which can't be read; or, for a row that shall come to many events, of great ones.
func (d *draw) sources(great bool) []string {
	if great {
		return []string{"", "", manyOnes(16), manyOnes(11 + d.upTo(5)), manyOnes(16) + " res web { a = ma[0].id }", "res web { a = 1 } " + manyOnes(13)}
	}
	var out []string
	for len(out) < 4 {
		l := d.scheme()
		if d.upTo(4) == 0 {
			l = d.doubtful(l)
		}
		if text := string(impl.ConfigText(l)); len(text) > 0 && len(text) <= impl.MaxSource {
			out = append(out, text)
		}
	}
	switch d.upTo(4) {
	case 0:
		out = append(out, "", "local n = 1 res web each {p = $n} { a = val } "+manyOnes(12))
	case 1:
		out = append(out, out[0][:d.upTo(len(out[0]))])
	case 2:
		out = append(out, out[1]+out[1], "res web { a = # }")
	}
	return out
}

// moreAnswers draws none, few, some of which say that something failed, or as many as may be.
func (d *draw) moreAnswers() []int {
	switch d.upTo(4) {
	case 0:
		return d.ample()[:d.upTo(6)]
	case 1:
		return d.someAnswers()
	}
	return d.ample()
}

// command draws one that may be, and often does something to h.
func (d *draw) command(h impl.History, sources []string, great bool) impl.Cmd {
	low, events := h.Base.Serial, len(h.Events)
	kind := d.upTo(14)
	if kind == 2 && great && events < impl.MaxEvents {
		// Nothing is forgotten as long as there is room.
		kind = 14
	}
	switch kind {
	case 0, 1:
		return impl.Cmd{Kind: impl.CmCrash, N: d.upTo(3)}
	case 2:
		return impl.Cmd{Kind: impl.CmCompact, N: max(0, low+d.upTo(h.Safe+3)-1)}
	case 3, 4, 5:
		return impl.Cmd{Kind: impl.CmRevert, N: max(0, low+d.upTo(events+3)-1), Answers: d.moreAnswers()}
	case 6:
		return impl.Cmd{Kind: impl.CmResume}
	}
	return impl.Cmd{Text: []byte(sources[d.upTo(len(sources))]), Answers: d.moreAnswers()}
}

// drawnRuns are rows of commands, each of at most so many.
func drawnRuns(n int, most int) func(yield func(r *drawnRun) bool) {
	return func(yield func(r *drawnRun) bool) {
		d := draw(n + 71)
		for i := range n {
			r := &drawnRun{logs: make([]impl.History, 1)}
			great := i%3 == 0
			sources := d.sources(great)
			if great {
				// Rows like these begin with many events, now an even number of them, now an odd one.
				for _, text := range []string{"apply: " + manyOnes(16), "resume", onesCmd(16), onesCmd(0), onesCmd(16), onesCmd(0), onesCmd(16), onesCmd(0), onesCmd(15)}[2*d.upTo(2):] {
					r.then(cmdFrom(text))
				}
			}
			for range most - len(r.cmds) - d.upTo(4) {
				r.then(d.command(r.logs[len(r.logs)-1], sources, great))
			}
			if !yield(r) {
				return
			}
		}
	}
}

// TestDrawnRunsByRule: each kind of command tells each of its codes often enough to tell something.
func TestDrawnRunsByRule(t *testing.T) {
	codes, acts, full, lost := map[[2]int]int{}, map[int]int{}, 0, 0
	for r := range drawnRuns(220, impl.MaxCmds) {
		h, told := impl.Run(r.cmds)
		if !alike(told, r.told) || !alike(h, r.logs[len(r.cmds)]) || !impl.HistOk(h) {
			t.Fatalf("%s\n%s, wanted %s\n%s, wanted %s", r.text(), tellsText(told), tellsText(r.told), logText(h), logText(r.logs[len(r.cmds)]))
		}
		for i, x := range told {
			codes[[2]int{r.cmds[i].Kind, x.Code}]++
			for _, code := range x.Codes {
				acts[code]++
			}
			was, is := r.logs[i], r.logs[i+1]
			if len(is.Events) == impl.MaxEvents {
				full++
			}
			if r.cmds[i].Kind == impl.CmCrash && len(is.Events) < len(was.Events) {
				lost++
			}
		}
		head, _ := impl.HistHead(h)
		if got := string(impl.StateText(head)); got != stateTextByRule(head) {
			t.Fatal(got)
		}
	}
	for kind, wanted := range [][]int{{0, 2, 3, 6, 13}, {0}, {0, 9}, {0, 9}, {0, 9}} {
		for _, code := range wanted {
			if codes[[2]int{kind, code}] < 20 {
				t.Error(kind, code, codes, "the draws tell nothing")
			}
		}
	}
	for code := range walkWords {
		if acts[code] < 5 {
			t.Error(acts, "the draws tell nothing")
		}
	}
	if full < 100 || lost < 3 {
		t.Error(full, lost, "the draws tell nothing")
	}
}

// TestTheFirstCommandsTellTheSameAlone: of each row, for each k, and what they leave is what those behind go on from.
func TestTheFirstCommandsTellTheSameAlone(t *testing.T) {
	for r := range drawnRuns(50, impl.MaxCmds) {
		_, all := impl.Run(r.cmds)
		if len(all) != len(r.cmds) {
			t.Fatal(r.text())
		}
		for k := range len(r.cmds) + 1 {
			h, told := impl.Run(r.cmds[:k])
			if !alike(told, all[:k]) || !alike(h, r.logs[k]) || !impl.HistOk(h) {
				t.Fatalf("%d: %s\n%s, wanted %s", k, r.text(), tellsText(told), tellsText(all[:k]))
			}
		}
	}
}

// TestCommandsAreDoneOneBehindTheOther: each goes on from what those ahead left, all of which stays but where a crash or a compaction takes it.
func TestCommandsAreDoneOneBehindTheOther(t *testing.T) {
	grown := 0
	for r := range drawnRuns(60, 12) {
		var was impl.History
		for k, c := range r.cmds {
			h, told := impl.Run(r.cmds[:k+1])
			before, _ := impl.HistHead(was)
			after, _ := impl.HistHead(h)
			code := told[k].Code
			switch {
			case code >= 9:
				if !alike(h, was) || len(told[k].Codes) > 0 {
					t.Fatal(r.text(), k)
				}
			case c.Kind == impl.CmApply || c.Kind == impl.CmRevert || c.Kind == impl.CmResume:
				grown += len(h.Events) - len(was.Events)
				if !goesOn(was, h) || c.Kind != impl.CmApply && alike(h, was) || code != 0 && len(told[k].Codes) > 0 || c.Kind == impl.CmResume && len(told[k].Codes) > 0 {
					t.Fatal(r.text(), k)
				}
			case c.Kind == impl.CmCrash:
				if !goesOn(h, histOf(was.Base, len(was.Events), was.Events...)) || h.Safe != len(h.Events) || h.Safe < was.Safe || code != 0 {
					t.Fatal(r.text(), k)
				}
			case !alike(after, before) || h.Base.Serial != c.N || len(told[k].Codes) > 0 || code != 0:
				t.Fatal(r.text(), k)
			}
			was = h
		}
	}
	if grown < 5000 {
		t.Error(grown, "the draws tell nothing")
	}
}

// TestARunOfCommandsThatWasBrokenOff: it is ended by a resume, and what was under way is tainted.
func TestARunOfCommandsThatWasBrokenOff(t *testing.T) {
	d, busy, none := draw(84), 0, 0
	for r := range drawnRuns(150, 10) {
		if d.upTo(4) > 0 {
			r.then(impl.Cmd{Text: []byte(d.sources(true)[d.upTo(6)]), Answers: d.ample()[:d.upTo(3)]})
		}
		h, _ := impl.Run(r.cmds)
		was, _ := impl.HistHead(h)
		x, told := impl.Run(append(slices.Clip(r.cmds), impl.Cmd{Kind: impl.CmResume}))
		now, _ := impl.HistHead(x)
		code := told[len(r.cmds)].Code
		if !was.Open || len(h.Events) == impl.MaxEvents {
			none++
			if code != 9 || !alike(x, h) {
				t.Fatal(r.text())
			}
			continue
		}
		if code != 0 || now.Open || len(now.Pending) > 0 || !goesOn(h, x) || len(x.Events) != len(h.Events)+1 {
			t.Fatal(r.text())
		}
		if len(was.Pending) > 0 {
			busy++
			if one, there := impl.EntryOf(now, was.Pending); !there || !one.Taint || one.Turned != now.Serial {
				t.Fatal(r.text())
			}
		}
	}
	if busy < 30 || none < 60 {
		t.Error(busy, none, "the draws tell nothing")
	}
}

// TestWhateverCommandsThereWereAnApplyHasWhatIsWanted: behind commands and a crash, with answers enough, all acts being done and the run ended.
func TestWhateverCommandsThereWereAnApplyHasWhatIsWanted(t *testing.T) {
	d := draw(83)
	ended, acts, taint, lost := 0, 0, 0, 0
	for r := range drawnRuns(200, 14) {
		from, _ := impl.Run(r.cmds)
		crash := impl.Cmd{Kind: impl.CmCrash, N: d.upTo(2)}
		left, _ := impl.Run(append(slices.Clip(r.cmds), crash))
		if len(left.Events) < len(from.Events) {
			lost++
		}
		for _, text := range []string{string(r.cmds[d.upTo(len(r.cmds))].Text), d.sources(false)[0], ""} {
			l, code, _ := impl.ConfigRead([]byte(text))
			if code != impl.RdWell {
				continue
			}
			more := []impl.Cmd{crash, {Text: []byte(text), Answers: d.ample()}}
			if len(left.Events) > 220 {
				// There may be no room for all of it.
				more = []impl.Cmd{crash, {Kind: impl.CmCompact, N: left.Base.Serial + left.Safe}, more[1]}
			}
			ahead, _ := impl.Run(append(slices.Clip(r.cmds), more[:len(more)-1]...))
			h, told := impl.Run(append(slices.Clip(r.cmds), more...))
			last := told[len(told)-1]
			j := journey{from: ahead, l: l, answers: more[len(more)-1].Answers, to: h, codes: last.Codes}
			if last.Code != impl.CfWell || !j.allDone() {
				continue
			}
			if head, _ := impl.HistHead(ahead); len(head.Pending) > 0 || len(impl.Tainted(head)) > 0 {
				taint++
			}
			justWanted(t, j)
			ended++
			acts += len(j.codes)
		}
	}
	if ended < 300 || acts < 1000 || taint < 50 || lost < 1 {
		t.Error(ended, acts, taint, lost, "the draws tell nothing")
	}
}
