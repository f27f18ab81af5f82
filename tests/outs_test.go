package tests

import (
	"strconv"
	"strings"
	"testing"

	"loop.example/g00407/impl"
)

// outsText tells what OutsOf tells: the map, or the word of the code and the number.
func outsText(l []impl.Item, s impl.State) string {
	v, code, item := impl.OutsOf(l, s)
	switch {
	case code == impl.CfWell && item == 0:
		return textByRule(v)
	case code == impl.CfWell || !alike(v, impl.Value{}):
		return "a value beside a code, or a number beside none"
	}
	return flawText(code, item)
}

// outs fails where the outputs of a configuration for a state are not what stands beside it.
func outs(t *testing.T, s impl.State, table [][2]string) {
	t.Helper()
	for _, c := range table {
		if got := outsText(configFrom(c[0]), s); got != c[1] {
			t.Errorf("%s: %s, wanted %s", c[0], got, c[1])
		}
	}
}

// wantedText tells what Wanted tells: the entries, or the word of the code and the number.
func wantedText(l []impl.Item, s impl.State) string {
	all, code, item := impl.Wanted(l, s)
	if code != impl.CfWell && len(all) == 0 {
		return flawText(code, item)
	}
	if code != impl.CfWell || item != 0 {
		return "entries beside a code, or a number beside none"
	}
	var out []string
	for _, x := range all {
		text := string(x.Addr) + " " + textByRule(x.Val)
		if len(x.Deps) > 0 {
			text += " needs " + texts(x.Deps)
		}
		if x.Taint || x.Turned != 0 {
			text += " with more"
		}
		out = append(out, text)
	}
	return strings.Join(out, "; ")
}

// wants fails where what a configuration wants in a state is not what stands beside it.
func wants(t *testing.T, s impl.State, table [][2]string) {
	t.Helper()
	for _, c := range table {
		if got := wantedText(configFrom(c[0]), s); got != c[1] {
			t.Errorf("%s: %s, wanted %s", c[0], got, c[1])
		}
	}
}

// TestWhatPlansRefuseIsRefused: PlanOf's code and number are those of OutsOf and Wanted.
func TestWhatPlansRefuseIsRefused(t *testing.T) {
	refuse := func(why string, l []impl.Item, s impl.State) {
		want := planned(l, s)
		if got := outsText(l, s); got != want {
			t.Errorf("%s: OutsOf tells %s, wanted %s", why, got, want)
		}
		if got := wantedText(l, s); got != want {
			t.Errorf("%s: Wanted tells %s, wanted %s", why, got, want)
		}
	}
	for why, l := range badConfigs() {
		refuse(why, l, impl.State{})
		refuse(why, l, calm(-1, false))
	}
	l := configFrom("out o = web.a res web { a = 1 }")
	for why, s := range badStates() {
		refuse(why, l, s)
	}
	for _, text := range []string{
		"local l = $l", "local l = web", "local l = $none", "local l = foo()", "local l = " + nulls(40), "res c { id = 1 }", "out p = val", "out p = none", "res c count 6 { }", "res c count foo() { }", manyOnes(17),
		"res r { x = r }", "res a { x = b } res b { x = a }", "res a { x = foo() }", "res a { x = {}.x }", "res a { x = " + nulls(39) + " }", "res a { x = " + nestedLists(5) + " }", "res a { x = m y = n } res m count 5 { } res n count 4 { }",
	} {
		for _, other := range []string{"out o = 1 ", "out o = foo() ", "out o = " + nulls(40) + " ", "res z { } "} {
			refuse(text, configFrom(other+text), impl.State{})
			refuse(text, configFrom(text+" "+other), there("a {id = 1}", "r {}"))
		}
	}
}

func TestOuts(t *testing.T) {
	outs(t, impl.State{}, [][2]string{
		{"", "{}"}, {"res a { x = 1 }", "{}"}, {"local a = 1", "{}"}, {"out a = 1", "{a = 1}"}, {"out id = 1 out a = [true, \"t\", null, {k = 2}]", `{a = [true, "t", null, {k = 2}], id = 1}`},
		{"out b = $n + 1 local n = $m local m = 4 out a = $m", "{a = 4, b = 5}"}, {"out z = 1 out y = 2 out x = 3", "{x = 3, y = 2, z = 1}"},
		// Resources of each sort.
		{"res a { x = 1 } out o = a", "{o = {id = ?, x = 1}}"}, {"out o = a.x out p = a.id res a { x = 1 }", "{o = 1, p = ?}"}, {"res a count 2 { x = index } out o = a", "{o = [{id = ?, x = 0}, {id = ?, x = 1}]}"}, {"res a count 2 { x = index } out o = a[1].x out p = len(a)", "{o = 1, p = 2}"},
		{"res a each {p = 7, q = 8} { x = val } out o = a", "{o = {p = {id = ?, x = 7}, q = {id = ?, x = 8}}}"}, {"res a each {p = 7, q = 8} { x = val } out o = a.q.x out p = keys(a)", `{o = 8, p = ["p", "q"]}`}, {"res a count 0 { } res b each {} { } out o = [a, b]", "{o = [[], {}]}"},
		{"out o = [a.x, b[0].x, c.p.x] res a { x = b[0].id } res b count 1 { x = c.p.x } res c each {p = 3} { x = val }", "{o = [?, 3, 3]}"},
		// An output and a resource of one name.
		{"out a = a.x res a { x = 1 }", "{a = 1}"},
	})
	// What is kept, updated, replaced, made.
	text := "out o = [a.id, b.id, c.id, d.id] out p = [a.x, b.x, c.x, d.x] res a { x = 1 } res b { x = 1 } res c { kind = 1 x = 1 } res d { x = 1 }"
	outs(t, there("a {id = 5, x = 1}", "b {id = 6, x = 2}", "c {id = 7, kind = 2, x = 1}", "e {id = 9}"), [][2]string{{text, "{o = [5, 6, ?, ?], p = [1, 1, 1, 1]}"}})
	outs(t, there("!a {id = 5, x = 1}", "!b {id = 6, x = 2}", "c {id = 7, kind = 1, x = 1}", "d {x = 2}"), [][2]string{{text, "{o = [?, ?, 7, ?], p = [1, 1, 1, 1]}"}})
	outs(t, there("a {x = 1}"), [][2]string{{"out o = a res a { x = 1 }", "{o = {x = 1}}"}, {"out o = a.id res a { x = 1 }", "value 0"}, {"out o = a.id res a { x = 2 }", "{o = ?}"}})
}

func TestOutsThatHaveNone(t *testing.T) {
	for _, e := range []string{"1 + true", "{}.x", "a.none", "c[2]", "no[0]", "m.q", "1000000000000 * 2", "foo()", "len()", nulls(41), nestedLists(6), "len(" + strings.Repeat("1, ", 40) + "1)", "len(a.x)"} {
		rest := " res a { x = 1 } res c count 2 { } res no count 0 { } res m each {p = 1} { }"
		outs(t, impl.State{}, [][2]string{{"out o = " + e + rest, "value 0"}, {"local n = 1 out p = 1 out o = " + e + rest, "value 2"}, {"out o = true ? 1 : " + e + rest, "{o = 1}"}})
	}
	outs(t, impl.State{}, [][2]string{
		// As great as may be, and more.
		{"out o = " + nulls(39), "{o = " + nulls(39) + "}"}, {"out o = " + nulls(40), "big 0"}, {"res a { } local n = 1 out o = " + nulls(40), "big 2"}, {"out o = " + nestedLists(4), "{o = " + nestedLists(4) + "}"}, {"out o = " + nestedLists(5), "big 0"},
		{"out o = " + nulls(20) + " out p = " + nulls(19), "{o = " + nulls(20) + ", p = " + nulls(19) + "}"}, {"out o = " + nulls(20) + " out p = " + nulls(20), "big 1"}, {"out p = " + nulls(20) + " out o = " + nulls(20), "big 1"}, {"out o = " + nulls(39) + " res a { } out p = 1", "big 2"}, {"out o = " + nulls(39) + " out p = 1 out q = 1", "big 1"},
		// The first that is wrong counts, item by item.
		{"out o = foo() out p = " + nulls(40), "value 0"}, {"out p = " + nulls(40) + " out o = foo()", "big 0"}, {"out o = " + nulls(30) + " out p = foo() out q = " + nulls(30), "value 1"}, {"out z = foo() out a = {}.x", "value 0"},
	})
	// Resources that are too great for a value.
	five := " res b count 5 { k = [index, 1, 2, 3, 4, 5] } res c count 5 { k = [index, 1, 2, 3, 4, 5] } res d count 1 { k = [[[7]]] }"
	outs(t, impl.State{}, [][2]string{
		{"out o = b[4].k[0] + c[3].k[0]" + five, "{o = 7}"}, {"out o = b" + five, "big 0"}, {"out o = [b]" + five, "value 0"}, {"out o = len(b)" + five, "value 0"}, {"out o = b == c" + five, "{o = ?}"}, {"out o = [b[0].id, c[0].id, d[0].id]" + five, "{o = [?, ?, ?]}"}, {"out o = d[0].k" + five, "{o = [[[7]]]}"}, {"out o = d[0]" + five, "big 0"},
	})
}

func TestWanted(t *testing.T) {
	wants(t, impl.State{}, [][2]string{
		{"", ""}, {"local a = 1 out b = foo()", ""}, {"res a count 0 { } res b each {} { }", ""}, {"res a { }", "a {id = ?}"}, {"res a { x = 1 }", "a {id = ?, x = 1}"},
		// By address.
		{"res c { } res a { } res b { }", "a {id = ?}; b {id = ?}; c {id = ?}"}, {"res b count 2 { x = index } res a each {q = 1, r = 2} { x = key }", `a["q"] {id = ?, x = "q"}; a["r"] {id = ?, x = "r"}; b[0] {id = ?, x = 0}; b[1] {id = ?, x = 1}`}, {"res ab { } res a count 1 { }", "a[0] {id = ?}; ab {id = ?}"},
		// With what they need.
		{"res a { x = b.id y = c.id } res b { x = c.id } res c { }", "a {id = ?, x = ?, y = ?} needs b c; b {id = ?, x = ?} needs c; c {id = ?}"}, {"res a { x = len(b) y = true ? 1 : c } res b count 2 { } res c each {p = 1} { }", `a {id = ?, x = 2, y = 1} needs b[0] b[1] c["p"]; b[0] {id = ?}; b[1] {id = ?}; c["p"] {id = ?}`},
	})
	// The entry's value of what is kept; what is updated has its id.
	text := "res d { x = 1 } res c { kind = 1 } res b { x = d.id } res a { x = b.id }"
	wants(t, there("a {id = 5, x = 6}", "b {id = 6, x = 7} needs z", "c {id = 7, kind = 2}", "d {id = 7, x = 1}", "e {id = 9}"), [][2]string{{text, "a {id = 5, x = 6} needs b; b {id = 6, x = 7} needs d; c {id = ?, kind = 1}; d {id = 7, x = 1}"}})
	wants(t, there("!a {id = 5, x = 6}", "b {id = 6, x = 6}", "c {kind = 1}", "d {id = 7, x = 2}"), [][2]string{{text, "a {id = ?, x = 6} needs b; b {id = 6, x = 7} needs d; c {kind = 1}; d {id = 7, x = 1}"}})
	wants(t, there("a {x = 5}", "b {id = [1, {k = 2}], x = 6}", "d {}"), [][2]string{{text, "a {id = ?, x = [1, {k = 2}]} needs b; b {id = [1, {k = 2}], x = ?} needs d; c {id = ?, kind = 1}; d {id = ?, x = 1}"}})
	// Nothing else of what is there: no Taint, no Turned, no Deps.
	s := calm(9, true, tainted("a", 4, vMap("id", vInt(1)), "b c"), entry("b", 5, vMap("id", vInt(2)), "c"))
	wants(t, s, [][2]string{{"res a { } res b { }", "a {id = ?}; b {id = 2}"}, {"", ""}})
	// MaxEntries of them, and as many Deps as may be.
	all, code, _ := impl.Wanted(configFrom(manyOnes(16)), impl.State{})
	if code != impl.CfWell || len(all) != impl.MaxEntries {
		t.Error(code, len(all))
	}
	all, code, _ = impl.Wanted(configFrom("res z { x = len(m) y = len(n) } res m count 5 { } res n count 3 { }"), impl.State{})
	if code != impl.CfWell || len(all) != 9 || len(all[8].Deps) != impl.MaxDeps {
		t.Error(code, all)
	}
	// A value is its attributes and id, whatever id the entry has.
	x := calm(3, false, entry("a", 1, vMap("id x", wide(30), vInt(1)), ""))
	wants(t, x, [][2]string{{"res a { x = " + nulls(20) + " }", "a {id = " + nulls(30) + ", x = " + nulls(20) + "}"}})
}

// TestWantedMayBe: but for what is not known, what is wanted may be a state's entries.
func TestWantedMayBe(t *testing.T) {
	known := 0
	for i, l := range drawnLayouts(600) {
		all, code, _ := impl.Wanted(l, impl.State{})
		if code != impl.CfWell {
			continue
		}
		for j := range all {
			all[j].Turned = 1
			if v, ok := impl.ValSet(all[j].Val, []byte("id"), vInt(j)); ok {
				all[j].Val = v
			} else {
				t.Fatalf("%s: %s has no id", impl.ConfigText(l), all[j].Addr)
			}
			if !impl.ValKnown(all[j].Val) {
				all[j].Val = vMap("")
			}
			known++
		}
		if !impl.StateOk(calm(9, false, all...)) {
			t.Fatal(strconv.Itoa(i) + ": " + string(impl.ConfigText(l)))
		}
	}
	if known < 300 {
		t.Error(known, "the draws tell nothing")
	}
}
