package tests

import (
	"math"
	"slices"
	"sort"
	"strconv"
	"strings"
	"testing"

	"loop.example/g00407/impl"
)

// entry takes addresses, parted by blanks, for Deps.
func entry(addr string, turned int, v impl.Value, deps string) impl.Entry {
	return impl.Entry{Addr: []byte(addr), Val: v, Deps: keysOf(deps), Turned: turned}
}

// tainted is such an entry with Taint.
func tainted(addr string, turned int, v impl.Value, deps string) impl.Entry {
	x := entry(addr, turned, v, deps)
	x.Taint = true
	return x
}

// calm is a state with nothing under way.
func calm(serial int, open bool, l ...impl.Entry) impl.State {
	return impl.State{Serial: serial, Open: open, Entries: l}
}

// busy is an open state with something under way.
func busy(serial int, pending string, act int, l ...impl.Entry) impl.State {
	return impl.State{Serial: serial, Open: true, Pending: []byte(pending), Act: act, Entries: l}
}

// manyEntries are so many, all of them turned at 1.
func manyEntries(n int) []impl.Entry {
	var out []impl.Entry
	for i, addr := range strings.Fields(manyKeys(n)) {
		out = append(out, entry(addr, 1, vMap("n", vInt(i)), ""))
	}
	return out
}

func findByRule(s impl.State, addr []byte) int {
	return slices.IndexFunc(s.Entries, func(x impl.Entry) bool { return string(x.Addr) == string(addr) })
}

// stateByRule tells whether s may be.
func stateByRule(s impl.State) bool {
	if s.Serial < 0 || s.Serial > 1000000 || len(s.Entries) > 16 {
		return false
	}
	for i, x := range s.Entries {
		if !anAddr.Match(x.Addr) || !knownByRule(x.Val) || !depsByRule(x.Deps) || x.Turned < 1 || x.Turned > s.Serial {
			return false
		}
		if i > 0 && string(s.Entries[i-1].Addr) >= string(x.Addr) {
			return false
		}
	}
	if len(s.Pending) == 0 {
		return s.Act == 0
	}
	there := findByRule(s, s.Pending) >= 0
	return s.Open && anAddr.Match(s.Pending) && s.Act >= 1 && s.Act <= 4 && there == (s.Act != 1)
}

// goodStates: states that may be.
func goodStates() map[string]impl.State {
	m := vMap("")
	three := []impl.Entry{entry("a", 3, vMap("k", vInt(1)), "b"), tainted(`a["x"]`, 1, m, `a a[1] zz`), entry("a[1]", 7, vMap("k l", vText("x"), vList()), "")}
	out := map[string]impl.State{
		"zero":                            {},
		"zero, open":                      {Open: true},
		"lists that are empty":            {Pending: []byte{}, Entries: []impl.Entry{}},
		"MaxSerial":                       calm(impl.MaxSerial, false),
		"MaxSerial with an entry":         calm(impl.MaxSerial, true, entry("a", impl.MaxSerial, m, "")),
		"MaxSerial with one under way":    busy(impl.MaxSerial, "a", impl.AcCreate),
		"turned at 1":                     calm(7, false, entry("a", 1, m, "")),
		"turned at the serial":            calm(7, false, entry("a", 7, m, "")),
		"turned at 1, the serial being 1": calm(1, false, entry("a", 1, m, "")),
		"three":                           calm(7, false, three...),
		"three, open":                     calm(8, true, three...),
		"create":                          busy(8, "b", impl.AcCreate, three...),
		"create with a key":               busy(8, `a["y"]`, impl.AcCreate, three...),
		"create the first":                busy(0, "b", impl.AcCreate),
		"update":                          busy(8, "a", impl.AcUpdate, three...),
		"replace":                         busy(8, `a["x"]`, impl.AcReplace, three...),
		"delete":                          busy(8, "a[1]", impl.AcDelete, three...),
		"MaxEntries":                      calm(3, false, manyEntries(16)...),
		"MaxEntries, one being changed":   busy(3, "ac", impl.AcUpdate, manyEntries(16)...),
		"MaxEntries, one more to create":  busy(3, "zz", impl.AcCreate, manyEntries(16)...),
		"MaxEntries - 1, one to create":   busy(3, "zz", impl.AcCreate, manyEntries(15)...),
		"MaxDeps":                         calm(1, false, entry("a", 1, m, manyKeys(8))),
		"MaxParts":                        calm(1, false, entry("a", 1, wideMap(40), "")),
		"MaxDeep":                         calm(1, false, entry("a", 1, deepMaps(5), "")),
		"it needs itself":                 calm(1, false, entry("a", 1, m, "a")),
		"two that need each other":        calm(1, false, entry("a", 1, m, "b"), entry("b", 1, m, "a")),
	}
	var all []impl.Entry
	for _, c := range goodAddrs {
		out["at "+c.addr] = calm(1, false, entry(c.addr, 1, m, c.addr))
		out["creating "+c.addr] = busy(1, c.addr, impl.AcCreate)
		all = append(all, entry(c.addr, 1, m, ""))
	}
	out["many addresses"] = calm(1, false, all[:16]...)
	out["many others"] = calm(1, false, all[len(all)-16:]...)
	return out
}

// badStates: states that may not be, each for one reason.
func badStates() map[string]impl.State {
	m := vMap("")
	a, b := entry("a", 1, m, ""), entry("b", 1, m, "")
	out := map[string]impl.State{
		"serial -1":                            calm(-1, false),
		"least serial":                         calm(math.MinInt, false),
		"serial MaxSerial + 1":                 calm(impl.MaxSerial+1, false),
		"greatest serial":                      calm(math.MaxInt, true),
		"MaxEntries + 1":                       calm(9, false, manyEntries(17)...),
		"far too many":                         calm(9, false, manyEntries(600)...),
		"descending":                           calm(9, false, b, a),
		"descending at the end":                calm(9, false, a, entry("c", 1, m, ""), b),
		"descending by bytes":                  calm(9, false, entry("a[1]", 1, m, ""), entry("a[10]", 1, m, "")),
		"a number ahead of a key":              calm(9, false, entry("a[1]", 1, m, ""), entry(`a["k"]`, 1, m, "")),
		"the longer one ahead":                 calm(9, false, entry("ab", 1, m, ""), a),
		"twice":                                calm(9, false, a, a),
		"twice with another value":             calm(9, false, a, entry("a", 2, vMap("k", vNull), "b")),
		"twice at the end":                     calm(9, false, a, b, b),
		"turned at 0":                          calm(9, false, entry("a", 0, m, "")),
		"turned at -1":                         calm(9, false, entry("a", -1, m, "")),
		"turned behind the serial":             calm(9, false, entry("a", 10, m, "")),
		"turned behind the serial at the end":  calm(9, false, a, entry("b", 10, m, "")),
		"turned at 1, the serial being 0":      calm(0, false, a),
		"turned far behind":                    calm(9, false, entry("a", math.MaxInt, m, "")),
		"turned far ahead":                     calm(9, false, entry("a", math.MinInt, m, "")),
		"turned behind MaxSerial":              calm(impl.MaxSerial, false, entry("a", impl.MaxSerial+1, m, "")),
		"create while it is not open":          {Serial: 9, Pending: []byte("c"), Act: impl.AcCreate, Entries: []impl.Entry{a}},
		"update while it is not open":          {Serial: 9, Pending: []byte("a"), Act: impl.AcUpdate, Entries: []impl.Entry{a}},
		"something under way without an act":   busy(9, "a", impl.AcNone, a),
		"nothing there, without an act":        busy(9, "c", impl.AcNone, a),
		"act -1":                               busy(9, "a", -1, a),
		"act 5":                                busy(9, "a", 5, a),
		"act 5, nothing there":                 busy(9, "c", 5, a),
		"greatest act":                         busy(9, "a", math.MaxInt, a),
		"create what is there":                 busy(9, "a", impl.AcCreate, a),
		"create what is there behind":          busy(9, "b", impl.AcCreate, a, b),
		"update what is not there":             busy(9, "c", impl.AcUpdate, a, b),
		"replace what is not there":            busy(9, "aa", impl.AcReplace, a, b),
		"delete what is not there":             busy(9, "a[1]", impl.AcDelete, a, b),
		"delete where there is nothing":        busy(9, "a", impl.AcDelete),
		"update the empty address":             busy(9, "", impl.AcUpdate, a),
		"create the empty address":             busy(9, "", impl.AcCreate, a),
		"an act alone":                         {Serial: 9, Open: true, Act: impl.AcDelete},
		"an act alone, not open":               {Serial: 9, Act: impl.AcCreate},
		"act -1 alone":                         {Serial: 9, Open: true, Act: -1},
		"act 5 alone":                          {Serial: 9, Open: true, Act: 5},
		"an entry that is zero":                calm(9, false, impl.Entry{}),
		"MaxEntries and MaxSerial + 1":         calm(impl.MaxSerial+1, false, manyEntries(16)...),
		"an entry without a value":             calm(9, false, impl.Entry{Addr: []byte("a"), Turned: 1}),
		"an entry without a value, behind one": calm(9, false, a, impl.Entry{Addr: []byte("b"), Turned: 1}),
	}
	for _, c := range badAddrs {
		out[c.why+" for an address"] = calm(9, false, entry(c.addr, 1, m, ""))
		out[c.why+" for an address, behind others"] = calm(9, false, a, b, entry(c.addr, 1, m, ""))
		out[c.why+" for an address, ahead of others"] = calm(9, false, entry(c.addr, 1, m, ""), entry("zz", 1, m, ""))
		if c.addr != "" {
			out[c.why+" under way"] = busy(9, c.addr, impl.AcCreate, a)
			out[c.why+" under way, as an entry"] = busy(9, c.addr, impl.AcUpdate, entry(c.addr, 1, m, ""))
		}
	}
	addBadThings(func(why string, v impl.Value, deps [][]byte) {
		x := impl.Entry{Addr: []byte("k"), Val: v, Deps: deps, Turned: 1}
		out["an entry with "+why] = calm(9, false, x)
		out["an entry behind others with "+why] = calm(9, true, a, b, x)
	})
	return out
}

// state draws one that may be, at some of these addresses, which ascend.
func (d *draw) state(addrs ...string) impl.State {
	s := impl.State{Serial: []int{1, 5, 40, impl.MaxSerial - 1, impl.MaxSerial}[d.upTo(5)], Open: d.upTo(4) > 0}
	for _, addr := range d.someOf(impl.MaxEntries, addrs...) {
		x := entry(string(addr), 1+d.upTo(s.Serial), d.knownMap(), "")
		x.Deps, x.Taint = d.someOf(impl.MaxDeps, addrs...), d.upTo(3) == 0
		s.Entries = append(s.Entries, x)
	}
	if s.Open && d.upTo(3) > 0 {
		s.Pending, s.Act = []byte(addrs[d.upTo(len(addrs))]), impl.AcCreate
		if findByRule(s, s.Pending) >= 0 {
			s.Act = impl.AcUpdate + d.upTo(3)
		}
	}
	return s
}

// meddled is s with one thing of it, perhaps, as it may not be.
func (d *draw) meddled(s impl.State) impl.State {
	s.Entries = slices.Clone(s.Entries)
	n := len(s.Entries)
	switch d.upTo(9) {
	case 0:
		s.Serial = []int{-1, 0, 1, 2, impl.MaxSerial, impl.MaxSerial + 1}[d.upTo(6)]
	case 1:
		s.Open = !s.Open
	case 2:
		s.Act = d.upTo(7) - 1
	case 3:
		s.Pending = []byte([]string{"", "a", "b", "c[1]", "A"}[d.upTo(5)])
	case 4:
		if n > 1 {
			i := d.upTo(n - 1)
			s.Entries[i], s.Entries[i+1] = s.Entries[i+1], s.Entries[i]
		}
	case 5:
		if n > 0 {
			s.Entries[d.upTo(n)].Addr = []byte([]string{"", "a", "b", "c[1]", "A", "zz"}[d.upTo(6)])
		}
	case 6:
		if n > 0 {
			s.Entries[d.upTo(n)].Turned = []int{0, 1, s.Serial, s.Serial + 1}[d.upTo(4)]
		}
	case 7:
		if n > 0 {
			s.Entries[d.upTo(n)].Val = d.value(3)
		}
	case 8:
		if n > 0 {
			s.Entries[d.upTo(n)].Deps = [][]byte{[]byte([]string{"a", "b", "", "A", "c[1]"}[d.upTo(5)]), []byte("b")}
		}
	}
	return s
}

var fewAddrs = []string{"a", `b["k"]`, "b[1]", "c", "d"}

var manyAddrs = strings.Fields(manyKeys(24))

// drawnStates are so many that may be, of few entries and of many.
func drawnStates(n int) []impl.State {
	d := draw(n)
	var out []impl.State
	for i := range n {
		if i%4 == 0 {
			out = append(out, d.state(manyAddrs...))
		} else {
			out = append(out, d.state(fewAddrs...))
		}
	}
	return out
}

func TestStatesThatMayBe(t *testing.T) {
	for why, s := range goodStates() {
		if !impl.StateOk(s) || !stateByRule(s) {
			t.Error(why)
		}
	}
	for _, s := range drawnStates(1000) {
		if !impl.StateOk(s) || !stateByRule(s) {
			t.Fatal(s)
		}
	}
	for serial := range 12 {
		for turned := -2; turned < 14; turned++ {
			if impl.StateOk(calm(serial, false, entry("a", turned, vMap(""), ""))) != (1 <= turned && turned <= serial) {
				t.Error(serial, turned)
			}
		}
	}
	for n := range 20 {
		if impl.StateOk(calm(1, false, manyEntries(n)...)) != (n <= impl.MaxEntries) {
			t.Error(n, "entries")
		}
		if impl.StateOk(calm(1, false, entry("a", 1, vMap(""), manyKeys(n)))) != (n <= impl.MaxDeps) {
			t.Error(n, "deps")
		}
	}
}

func TestStatesThatMayNotBe(t *testing.T) {
	for why, s := range badStates() {
		if impl.StateOk(s) || stateByRule(s) {
			t.Error(why)
		}
		for _, addr := range []string{"a", "b", "k", ""} {
			if x, ok := impl.EntryOf(s, []byte(addr)); ok || !alike(x, impl.Entry{}) {
				t.Error(why, "has", addr)
			}
			if l := impl.Needs(s, []byte(addr)); len(l) != 0 {
				t.Error(why, "needs", l)
			}
		}
		if l := impl.Tainted(s); len(l) != 0 {
			t.Error(why, "is tainted", l)
		}
		for _, other := range []impl.State{{}, calm(9, true, manyEntries(3)...), s} {
			if len(impl.Differ(s, other)) != 0 || len(impl.Differ(other, s)) != 0 {
				t.Error(why, "differs")
			}
		}
	}
}

func TestStatesByRule(t *testing.T) {
	d := draw(3)
	fine, bad := 0, 0
	for _, s := range drawnStates(6000) {
		s = d.meddled(s)
		if impl.StateOk(s) != stateByRule(s) {
			t.Fatal(s, impl.StateOk(s))
		}
		if stateByRule(s) {
			fine++
		} else {
			bad++
		}
	}
	if fine < 1000 || bad < 1000 {
		t.Error("only", fine, "and", bad)
	}
}

// TestEachFieldOfStates puts what is under way together with all that it must go with.
func TestEachFieldOfStates(t *testing.T) {
	for _, open := range []bool{false, true} {
		for _, pending := range []string{"", "a", "b", "ab", "a[1]", "A"} {
			for act := -2; act <= 6; act++ {
				for n := range 3 {
					s := impl.State{Serial: 5, Open: open, Pending: []byte(pending), Act: act}
					s.Entries = []impl.Entry{entry("a", 1, vMap(""), ""), entry("b", 5, vMap(""), "")}[:n]
					if impl.StateOk(s) != stateByRule(s) {
						t.Error(s)
					}
				}
			}
		}
	}
}

func TestEntryOf(t *testing.T) {
	for why, s := range goodStates() {
		addrs := [][]byte{nil, {}, []byte("zzz"), []byte("A"), []byte("a"), []byte(`a["x"`), []byte("a[1]x"), s.Pending}
		for _, x := range s.Entries {
			addrs = append(addrs, x.Addr, x.Addr[:len(x.Addr)-1])
		}
		for _, addr := range addrs {
			x, ok := impl.EntryOf(s, addr)
			i := findByRule(s, addr)
			if ok != (i >= 0) || !ok && !alike(x, impl.Entry{}) || ok && !alike(x, s.Entries[i]) {
				t.Errorf("%s: at %q there is %v, %v", why, addr, x, ok)
			}
		}
	}
	for _, s := range drawnStates(500) {
		for _, addr := range slices.Concat(fewAddrs, manyAddrs) {
			x, ok := impl.EntryOf(s, []byte(addr))
			i := findByRule(s, []byte(addr))
			if ok != (i >= 0) || ok && !alike(x, s.Entries[i]) {
				t.Fatal(s, addr, x)
			}
		}
	}
}

func texts(l [][]byte) string {
	var out []string
	for _, text := range l {
		out = append(out, string(text))
	}
	return strings.Join(out, " ")
}

func TestNeedsAndTainted(t *testing.T) {
	m := vMap("")
	s := calm(9, true, entry("a", 1, m, ""), tainted("b", 1, m, "a c"), entry(`c["x"]`, 1, m, "a"), tainted("c[0]", 2, m, "b c"), entry("d", 1, m, `a c["x"] d`))
	for addr, want := range map[string]string{
		"a": `b c["x"] d`, "b": "c[0]", "c": "b c[0]", `c["x"]`: "d", "c[0]": "", "d": "d", "e": "", "": "", "A": "", "c[": "",
	} {
		if got := texts(impl.Needs(s, []byte(addr))); got != want {
			t.Errorf("%q: %q", addr, got)
		}
	}
	if got := texts(impl.Tainted(s)); got != "b c[0]" {
		t.Error(got)
	}
	for _, none := range []impl.State{{}, calm(9, false, manyEntries(16)...)} {
		if len(impl.Tainted(none)) != 0 || len(impl.Needs(none, []byte("aa"))) != 0 || len(impl.Needs(none, nil)) != 0 {
			t.Error(none)
		}
	}
	all := calm(1, false, manyEntries(16)...)
	for i := range all.Entries {
		all.Entries[i].Taint, all.Entries[i].Deps = true, keysOf("k")
	}
	if texts(impl.Tainted(all)) != manyKeys(16) || texts(impl.Needs(all, []byte("k"))) != manyKeys(16) {
		t.Error(texts(impl.Tainted(all)))
	}
}

// told gives the addresses of the entries that are wanted.
func told(s impl.State, wanted func(impl.Entry) bool) string {
	var out []string
	for _, x := range s.Entries {
		if wanted(x) {
			out = append(out, string(x.Addr))
		}
	}
	return strings.Join(out, " ")
}

func TestNeedsAndTaintedByRule(t *testing.T) {
	for _, s := range drawnStates(1000) {
		if got := texts(impl.Tainted(s)); got != told(s, func(x impl.Entry) bool { return x.Taint }) {
			t.Fatal(s, got)
		}
		for _, addr := range append(slices.Clone(fewAddrs), manyAddrs[:6]...) {
			want := told(s, func(x impl.Entry) bool {
				return slices.ContainsFunc(x.Deps, func(dep []byte) bool { return string(dep) == addr })
			})
			if got := texts(impl.Needs(s, []byte(addr))); got != want {
				t.Fatal(s, addr, got)
			}
		}
	}
}

func TestDiffer(t *testing.T) {
	one, two := vMap("k", vInt(1)), vMap("k", vInt(2))
	a := calm(9, false, entry("a", 1, one, ""), entry("b", 1, one, ""), entry("c", 1, one, ""), entry("e", 1, one, ""))
	for _, c := range []struct {
		why  string
		b    impl.State
		want string
	}{
		{"the same", a, ""},
		{"all but the values is another one", busy(30, "a", impl.AcDelete, tainted("a", 20, one, "x y"), tainted("b", 21, one, ""), entry("c", 2, one, "a"), entry("e", 3, one, "")), ""},
		{"nothing", impl.State{}, "a b c e"},
		{"one is not there", calm(9, false, entry("a", 1, one, ""), entry("c", 1, one, ""), entry("e", 1, one, "")), "b"},
		{"one more behind", calm(9, false, append(slices.Clone(a.Entries), entry("f", 1, one, ""))...), "f"},
		{"one more between", calm(9, false, entry("a", 1, one, ""), entry("b", 1, one, ""), entry("c", 1, one, ""), entry("d", 1, one, ""), entry("e", 1, one, "")), "d"},
		{"another value", calm(9, false, entry("a", 1, one, ""), entry("b", 1, two, ""), entry("c", 1, one, ""), entry("e", 1, one, "")), "b"},
		{"an empty map", calm(9, false, entry("a", 1, vMap(""), ""), entry("b", 1, one, ""), entry("c", 1, one, ""), entry("e", 1, one, "")), "a"},
		{"all of it", calm(9, false, entry(`a["x"]`, 1, one, ""), entry("b", 1, two, ""), entry("c", 1, vMap("l", vInt(1)), ""), entry("d", 1, one, ""), entry("ee", 1, one, "")), `a a["x"] b c d e ee`},
	} {
		if got := texts(impl.Differ(a, c.b)); got != c.want {
			t.Errorf("%s: %s", c.why, got)
		}
		if got := texts(impl.Differ(c.b, a)); got != c.want {
			t.Errorf("%s, the other way round: %s", c.why, got)
		}
	}
	if l := impl.Differ(impl.State{}, impl.State{}); len(l) != 0 {
		t.Error(l)
	}
	many, others := calm(1, false, manyEntries(16)...), calm(1, false, manyEntries(16)...)
	for i := range others.Entries {
		others.Entries[i].Addr = append([]byte("x"), others.Entries[i].Addr...)
	}
	if l := impl.Differ(many, others); len(l) != 32 || texts(l[:16]) != manyKeys(16) {
		t.Error(texts(l))
	}
}

// differByRule goes through both states' own lists.
func differByRule(a impl.State, b impl.State) string {
	var out []string
	for _, x := range a.Entries {
		if i := findByRule(b, x.Addr); i < 0 || !sameByRule(x.Val, b.Entries[i].Val) {
			out = append(out, string(x.Addr))
		}
	}
	for _, x := range b.Entries {
		if findByRule(a, x.Addr) < 0 {
			out = append(out, string(x.Addr))
		}
	}
	sort.Strings(out)
	return strings.Join(out, " ")
}

func TestDifferTellsTheSameBothWays(t *testing.T) {
	states := drawnStates(150)
	for i, a := range states {
		if l := impl.Differ(a, a); len(l) != 0 {
			t.Fatal(a, "differs from itself", texts(l))
		}
		for _, b := range states[:i] {
			want := differByRule(a, b)
			if texts(impl.Differ(a, b)) != want || texts(impl.Differ(b, a)) != want {
				t.Fatal(a, b, texts(impl.Differ(a, b)), texts(impl.Differ(b, a)))
			}
		}
	}
}

func looseState(s impl.State) impl.State {
	out := impl.State{Serial: s.Serial, Open: s.Open, Pending: roomyOf(s.Pending, 'q'), Act: s.Act}
	for _, x := range s.Entries {
		out.Entries = append(out.Entries, impl.Entry{Addr: roomyOf(x.Addr, 'q'), Val: loose(x.Val), Deps: looseDeps(x.Deps), Taint: x.Taint, Turned: x.Turned})
	}
	out.Entries = roomyOf(out.Entries, tainted("zzzzzzzz", 1, vMap("k", vText("behind")), "a"))
	return out
}

// stateAnswers are all that the functions of states say of these.
func stateAnswers(s impl.State, other impl.State, e impl.Event, addr []byte) map[string][]any {
	out := map[string][]any{}
	tell := func(name string, answers ...any) { out[name] = answers }
	x, is := impl.EntryOf(s, addr)
	tell("EntryOf", x, is)
	made, ok := impl.Do(s, e)
	tell("Do", made, ok)
	tell("Needs", impl.Needs(s, addr))
	tell("Tainted", impl.Tainted(s))
	tell("Differ", impl.Differ(s, other))
	tell("told", impl.StateOk(s))
	return out
}

// eachStateCase calls with states, an event and an address, of which all, some or none may be.
func eachStateCase(call func(s impl.State, other impl.State, e impl.Event, addr []byte)) {
	m := vMap("k l", vText("x"), vList(vText("y")))
	events := []impl.Event{evBegin, evIntent("b", impl.AcCreate), evIntent("a", impl.AcDelete), evDone("a", m, "a b"), evDone("b", m, `a b["k"]`), evGone("a"), evFail("a"), evFail("b"), evEnd, evReset, evIntent("A", 1), {Kind: 9, Addr: []byte("a"), Val: m, Deps: keysOf("a")}}
	l := []impl.Entry{entry("a", 1, m, "b c"), tainted("c", 2, vMap("z", m), "a")}
	states := []impl.State{{}, {Open: true}, calm(5, false, l...), calm(5, true, l...), busy(5, "b", impl.AcCreate, l...), busy(5, "a", impl.AcUpdate, l...), busy(5, "a", impl.AcDelete, l...), busy(3, "b", impl.AcCreate, manyEntries(16)...), calm(impl.MaxSerial, true, l...)}
	states = append(states, drawnStates(10)...)
	states = append(states, calm(-1, true, l...), busy(5, "a", impl.AcCreate, l...), calm(5, false, l[1], l[0]), calm(5, false, entry("a", 9, m, "b")), calm(5, false, entry("a", 1, vMap("k", vUnknown), "b")), calm(3, false, manyEntries(17)...))
	for i, s := range states {
		for _, e := range events {
			call(s, states[(i+3)%len(states)], e, []byte([]string{"a", "c", "b", ""}[i%4]))
		}
	}
}

func TestStateConventions(t *testing.T) {
	eachStateCase(func(s impl.State, other impl.State, e impl.Event, addr []byte) {
		what := " of serial " + strconv.Itoa(s.Serial) + " and kind " + strconv.Itoa(e.Kind)
		plainly := stateAnswers(s, other, e, addr)
		wideS, wideOther, wideE, wideAddr := looseState(s), looseState(other), looseEvent(e), roomyOf(addr, 'q')
		given := []any{wideS, wideOther, wideE, wideAddr}
		var answers map[string][]any
		for _, one := range given {
			stays(t, what, one, func() { answers = stateAnswers(wideS, wideOther, wideE, wideAddr) })
		}
		for name, answer := range answers {
			newMemory(t, name+what, answer, given)
			for i := range answer {
				if !alike(answer[i], plainly[name][i]) {
					t.Errorf("%s%s: the room behind a list plays a part", name, what)
				}
			}
		}
	})
}

// TestSharedStatesComeApart: parts of the arguments may share memory, those of an answer may not.
func TestSharedStatesComeApart(t *testing.T) {
	v, deps, text := vMap("k", vList(vText("x"), vText("x"))), keysOf("a b"), []byte("abc")
	s := impl.State{Serial: 5, Open: true, Pending: text, Act: impl.AcCreate, Entries: []impl.Entry{{Addr: text[:1], Val: v, Deps: deps, Turned: 1}, {Addr: text[:2], Val: v, Deps: deps, Turned: 1}}}
	e := impl.Event{Kind: impl.EvDone, Addr: text, Val: v, Deps: deps}
	made, ok := impl.Do(s, e)
	if !ok || len(made.Entries) != 3 {
		t.Fatal(made)
	}
	newMemory(t, "Do", []any{made}, []any{s, e})
	reset, ok := impl.Do(s, evReset)
	if !ok || len(reset.Entries) != 3 {
		t.Fatal(reset)
	}
	newMemory(t, "Do", []any{reset}, []any{s})
	stayed, ok := impl.Do(s, evEnd)
	if ok || !alike(stayed, s) {
		t.Fatal(stayed)
	}
	newMemory(t, "Do", []any{stayed}, []any{s})
	x, ok := impl.EntryOf(s, text[:2])
	if !ok {
		t.Fatal(x)
	}
	newMemory(t, "EntryOf", []any{x}, []any{s})
	newMemory(t, "Needs", []any{impl.Needs(s, text[:1])}, []any{s})
	newMemory(t, "Differ", []any{impl.Differ(s, impl.State{})}, []any{s})
}

// TestStatesHangOnNothingElse asks for the same again and again.
func TestStatesHangOnNothingElse(t *testing.T) {
	s := calm(3, true, manyEntries(15)...)
	for i := range s.Entries {
		s.Entries[i].Taint, s.Entries[i].Deps = i%2 == 0, keysOf("k")
	}
	want := stateAnswers(s, impl.State{}, evIntent("zz", impl.AcCreate), []byte("k"))
	for range 50 {
		for name, answer := range stateAnswers(s, impl.State{}, evIntent("zz", impl.AcCreate), []byte("k")) {
			for i := range answer {
				if !alike(answer[i], want[name][i]) {
					t.Fatal(name, answer)
				}
			}
		}
	}
}
