package tests

import (
	"strconv"
	"strings"
	"testing"

	"loop.example/g00407/impl"
)

// stateTextByRule writes a state that may be.
func stateTextByRule(s impl.State) string {
	lines := []string{"serial " + strconv.Itoa(s.Serial)}
	if s.Open && len(s.Pending) == 0 {
		lines = append(lines, "open")
	}
	if s.Open && len(s.Pending) > 0 {
		lines = append(lines, "open "+strings.Fields("- create update replace delete")[s.Act]+" "+string(s.Pending))
	}
	for _, x := range s.Entries {
		words := []string{string(x.Addr), strconv.Itoa(x.Turned), "tainted", textByRule(x.Val)}
		if !x.Taint {
			words = append(words[:2], words[3])
		}
		lines = append(lines, strings.Join(words, " "))
	}
	return strings.Join(lines, "\n") + "\n"
}

func TestStateTextPlainly(t *testing.T) {
	every := vMap("a b c d e f g h", vNull, vTrue, vFalse, vInt(-3), vText(`"\ x`), vList(), vList(vInt(0), vMap("k", vText(""))), vMap("k l", vInt(impl.MaxInt), vMap("")))
	text := `{a = null, b = true, c = false, d = -3, e = "\"\\ x", f = [], g = [0, {k = ""}], h = {k = 1000000000000, l = {}}}`
	for _, c := range []struct {
		s    impl.State
		want string
	}{
		{impl.State{}, "serial 0\n"},
		{impl.State{Pending: []byte{}, Entries: []impl.Entry{}}, "serial 0\n"},
		{impl.State{Open: true}, "serial 0\nopen\n"},
		{calm(12, false), "serial 12\n"},
		{calm(12, true), "serial 12\nopen\n"},
		{calm(impl.MaxSerial, true), "serial 1000000\nopen\n"},
		{busy(0, "db", impl.AcCreate), "serial 0\nopen create db\n"},
		{busy(7, `web["p"]`, impl.AcCreate, entry("db", 3, vMap(""), "")), "serial 7\nopen create web[\"p\"]\ndb 3 {}\n"},
		{busy(7, "db", impl.AcUpdate, entry("db", 3, vMap(""), "")), "serial 7\nopen update db\ndb 3 {}\n"},
		{busy(7, "db[10]", impl.AcReplace, entry("db[10]", 7, vMap("id", vInt(4)), "")), "serial 7\nopen replace db[10]\ndb[10] 7 {id = 4}\n"},
		{busy(7, "db", impl.AcDelete, tainted("db", 1, vMap(""), "")), "serial 7\nopen delete db\ndb 1 tainted {}\n"},
		{calm(9, false, entry("db", 9, every, "")), "serial 9\ndb 9 " + text + "\n"},
		{calm(9, true, tainted("db", 2, every, "")), "serial 9\nopen\ndb 2 tainted " + text + "\n"},
		// What it needs is not told.
		{calm(9, false, entry("db", 2, vMap(""), "a b c"), tainted("db[0]", 3, vMap(""), "db")), "serial 9\ndb 2 {}\ndb[0] 3 tainted {}\n"},
		{calm(impl.MaxSerial, false, entry("a", impl.MaxSerial, vMap("x", vInt(1)), ""), entry(`a["k"]`, 1, vMap("y", vList(vNull)), ""), tainted("zzzzzzzz", 10, vMap("z", vText("tainted")), "")), "serial 1000000\na 1000000 {x = 1}\na[\"k\"] 1 {y = [null]}\nzzzzzzzz 10 tainted {z = \"tainted\"}\n"},
	} {
		if got := string(impl.StateText(c.s)); got != c.want {
			t.Errorf("%q, wanted %q", got, c.want)
		}
	}
}

// TestStateTextByRule: states of every form, MaxEntries of them, and nothing of what may not be.
func TestStateTextByRule(t *testing.T) {
	for why, s := range goodStates() {
		if got := string(impl.StateText(s)); got != stateTextByRule(s) {
			t.Errorf("%s: %q, wanted %q", why, got, stateTextByRule(s))
		}
	}
	open, taint, full := 0, 0, 0
	for _, s := range drawnStates(1500) {
		text := string(impl.StateText(s))
		if text != stateTextByRule(s) {
			t.Fatalf("%q, wanted %q", text, stateTextByRule(s))
		}
		open += strings.Count(text, "\nopen ")
		taint += strings.Count(text, " tainted {")
		if strings.Count(text, "\n") >= 12 {
			full++
		}
	}
	if open < 200 || taint < 200 || full < 20 {
		t.Error(open, taint, full, "the draws tell nothing")
	}
	for why, s := range badStates() {
		if got := impl.StateText(s); len(got) > 0 {
			t.Errorf("%s: %q", why, got)
		}
	}
}

// TestALineForEachPart: of a state its serial, that it is open, and each entry; of a plan each act, and what stays.
func TestALineForEachPart(t *testing.T) {
	lines := func(text []byte) []string {
		if !strings.HasSuffix(string(text), "\n") || strings.Contains(string(text), "\n\n") {
			t.Fatalf("%q", text)
		}
		return strings.Split(strings.TrimSuffix(string(text), "\n"), "\n")
	}
	for _, s := range append(drawnStates(400), calm(9, true, manyEntries(16)...), impl.State{}) {
		l := lines(impl.StateText(s))
		ahead := 1
		if s.Open {
			ahead = 2
		}
		if len(l) != ahead+len(s.Entries) {
			t.Fatal(l)
		}
		for i, x := range s.Entries {
			if !strings.HasPrefix(l[ahead+i], string(x.Addr)+" ") || !strings.HasSuffix(l[ahead+i], " "+string(impl.ValText(x.Val))) {
				t.Fatal(l)
			}
		}
	}
	acts := 0
	for l, s := range drawnSchemes(60) {
		p, code, _ := impl.PlanOf(l, s)
		if code != impl.CfWell {
			continue
		}
		text := lines(impl.PlanText(p))
		if len(text) != len(p.Acts)+1 || text[len(p.Acts)] != "keep "+strconv.Itoa(p.Same) {
			t.Fatal(text)
		}
		for i, a := range p.Acts {
			acts++
			if strings.Fields(text[i])[1] != string(a.Addr) {
				t.Fatal(text)
			}
		}
	}
	if acts < 300 {
		t.Error(acts, "the draws tell nothing")
	}
}
