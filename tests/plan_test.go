package tests

import (
	"cmp"
	"slices"
	"strconv"
	"strings"
	"testing"

	"loop.example/g00407/impl"
)

// valueFrom reads a known value that the tests themselves wrote.
func valueFrom(text string) impl.Value {
	v, code := impl.Eval(exprFrom(text), impl.Env{Locals: vMap(""), Res: vMap("")})
	if code != impl.EvWell {
		panic(text)
	}
	return v
}

// entryFrom reads an entry as the tests write it: `db {id = 7} needs app net`, with a ! ahead of one with Taint.
func entryFrom(text string) impl.Entry {
	text, deps, _ := strings.Cut(text, " needs ")
	addr, val, _ := strings.Cut(text, " ")
	x := entry(strings.TrimPrefix(addr, "!"), 1, valueFrom(val), deps)
	x.Taint = strings.HasPrefix(addr, "!")
	return x
}

// there is a state with these entries.
func there(l ...string) impl.State {
	s := impl.State{Serial: 9}
	for _, text := range l {
		s.Entries = append(s.Entries, entryFrom(text))
	}
	slices.SortFunc(s.Entries, func(a impl.Entry, b impl.Entry) int { return cmp.Compare(string(a.Addr), string(b.Addr)) })
	return s
}

// actText tells all that an act has, but Item -1 and a value that is null: `update web {zone = 7} of 0 needs db`.
func actText(a impl.Act) string {
	out := []string{"none", "create", "update", "replace", "delete"}[a.Act] + " " + string(a.Addr)
	if !alike(a.Val, impl.Value{}) {
		out += " " + textByRule(a.Val)
	}
	if a.Item != -1 {
		out += " of " + strconv.Itoa(a.Item)
	}
	if len(a.Deps) > 0 {
		out += " needs " + texts(a.Deps)
	}
	return out
}

// planText tells all that a plan has.
func planText(p impl.Plan) string {
	out := ""
	for _, a := range p.Acts {
		out += actText(a) + "; "
	}
	return out + "keep " + strconv.Itoa(p.Same)
}

// planned tells what PlanOf tells: the plan, or the word of the code and the number.
func planned(l []impl.Item, s impl.State) string {
	p, code, item := impl.PlanOf(l, s)
	switch {
	case code == impl.CfWell && item == 0:
		return planText(p)
	case code == impl.CfWell || !alike(p, impl.Plan{}):
		return "a plan beside a code, or a number beside none"
	}
	return flawText(code, item)
}

// plans fails where the plan of a configuration for a state is not what stands beside it.
func plans(t *testing.T, s impl.State, table [][2]string) {
	t.Helper()
	for _, c := range table {
		if got := planned(configFrom(c[0]), s); got != c[1] {
			t.Errorf("%s: %s, wanted %s", c[0], got, c[1])
		}
	}
}

// TestPlansOfWhatMayNotBe: CfForm counts ahead of all else.
func TestPlansOfWhatMayNotBe(t *testing.T) {
	some := there("web {id = 1}", "!old {} needs web")
	for why, l := range badConfigs() {
		for _, s := range []impl.State{{}, some, calm(-1, false)} {
			if got := planned(l, s); got != "form 0" {
				t.Error(why, got)
			}
		}
	}
	l := configFrom("out o = 1 local n = 1 res web { a = $n }")
	for why, s := range badStates() {
		if got := planned(l, s); got != "form 0" {
			t.Error(why, got)
		}
	}
	for _, wrong := range []string{"local l = $l", "res web { id = 1 }", "res web count 6 { }", "res a { x = a }", "res a { x = foo() }", "res a { x = " + nulls(39) + " }", ""} {
		plans(t, calm(1, false, entry("a", 2, vMap(""), "")), [][2]string{{wrong, "form 0"}})
	}
	for why, s := range goodStates() {
		if _, code, item := impl.PlanOf(l, s); code != impl.CfWell || item != 0 {
			t.Error(why, code, item)
		}
	}
	for _, l := range fullConfigs() {
		if got := planned(l, impl.State{}); got == "form 0" {
			t.Errorf("%s: %s", impl.ConfigText(l), got)
		}
	}
}

// TestPlansTellWhatIsWrongWithOnes: each code of InstsOf, with its number, ahead of rings, values and what is too great.
func TestPlansTellWhatIsWrongWithOnes(t *testing.T) {
	codes := map[string]int{}
	for _, wrong := range []string{
		"local l = web", "local l = index", "local l = $none", "local k = 1 local l = $l", "local l = $m local m = $l", "local l = foo()", "local l = {}.x", "local l = " + nulls(40), "local l = " + nestedLists(5),
		"res c { id = 1 }", "out o = val", "out o = none", "res c { x = none }", "res c { x = $none }", "res c count web { }", "res c each $none { }",
		"res c count 6 { }", "res c count -1 { }", "res c each 1 { }", "res c count foo() { }", "res c each 1 + true { }", manyOnes(17), manyOnes(16) + " res c { }",
	} {
		for _, text := range []string{wrong, "local x = 1 " + wrong, wrong + " res r { x = r }", "res r { x = r } " + wrong, "res v { x = foo() } " + wrong, wrong + " res b { x = " + nulls(39) + " }"} {
			l := configFrom(text)
			_, code, item := impl.InstsOf(l)
			codes[flawWords[code]]++
			for _, s := range []impl.State{{}, there("c {}", "r {id = 1}")} {
				if got := planned(l, s); got != flawText(code, item) || code == impl.CfWell {
					t.Errorf("%s: %s, wanted %s", text, got, flawText(code, item))
				}
			}
		}
	}
	if len(codes) != 6 {
		t.Error(codes)
	}
}

// TestRingsOfOnes: the first one that is on a ring itself.
func TestRingsOfOnes(t *testing.T) {
	for _, s := range []impl.State{{}, there("a {id = 1}", "b {id = 2, x = 1}")} {
		plans(t, s, [][2]string{
			{"res a { x = a }", "ring 0"}, {"res a { x = a.id }", "ring 0"}, {"res a { x = 1 y = [{k = 1 + a}] }", "ring 0"}, {"res a count 2 { x = a[0].id }", "ring 0"}, {`res a each {p = 1} { x = a["p"] }`, "ring 0"}, {"res a count 1 { x = a }", "ring 0"},
			{"res a { x = b.id } res b { x = a.id }", "ring 0"}, {"res z { x = y } res y { x = z }", "ring 0"}, {"res a { x = b } res b { x = c } res c { x = d } res d { x = e } res e { x = a }", "ring 0"},
			// Numbers are those of all items.
			{"local n = 1 out o = a res a { x = a }", "ring 2"}, {"res b { } local n = 1 res a { x = b y = a }", "ring 2"}, {"res b count 5 { } out o = 1 res c each {p = 1, q = 2} { } res a { x = a }", "ring 3"}, {"res b count 0 { } res a { x = a }", "ring 1"},
			// What only leads to a ring, or is led to by one, ahead of it.
			{"res c { } res a { x = b y = c } res b { x = a }", "ring 1"}, {"res d { x = a } res a { x = b } res b { x = a }", "ring 1"}, {"res e { x = d } res d { x = a } res c { } res b { x = c } res a { x = a y = b }", "ring 4"},
			{"res m { x = b } res d { x = d y = m } res b { x = b }", "ring 1"}, {"res m { x = b } res n { x = m } res b { x = b } res d { x = n y = d }", "ring 2"},
			// Of two rings.
			{"res z { x = c y = d } res c { x = b } res b { x = c } res d { x = d }", "ring 1"}, {"res z { x = c y = d } res d { x = d } res c { x = b } res b { x = c }", "ring 1"},
			// What is not asked is needed, too.
			{"res a { x = true || a }", "ring 0"}, {"res a { x = true ? 1 : b } res b { x = false && a }", "ring 0"}, {"res a { x = foo(a) }", "ring 0"},
			// Ahead of what has no value and what is too great.
			{"res a { x = foo() } res b { x = b }", "ring 1"}, {"res b { x = b y = foo() }", "ring 0"}, {"res a { x = " + nulls(39) + " } res b { x = b }", "ring 1"},
			{"res c { x = m y = n } res m count 5 { } res n count 4 { } res b { x = b }", "ring 3"},
		})
	}
	// Where there are no ones, there is no ring.
	plans(t, impl.State{}, [][2]string{
		{"res a count 0 { x = a }", "keep 0"}, {"res a each {} { x = a }", "keep 0"}, {"res a count 0 { x = b } res b { x = a }", "create b {x = []} of 1; keep 0"}, {"res b { x = a } res a each {} { x = b }", "create b {x = {}} of 0; keep 0"},
		{"res a count 1 { x = b } res b count 0 { x = c } res c { x = a }", "create a[0] {x = []} of 0; create c {x = [{id = ?, x = []}]} of 2 needs a[0]; keep 0"},
	})
}

// TestAttributesWithoutAValue: each way in which there is none.
func TestAttributesWithoutAValue(t *testing.T) {
	for _, e := range []string{"1 + true", "!1", "-null", "{}.x", "[1][1]", "db.none", `m["q"]`, "m.q", "c[2]", "none[0]", "c.id", "db[0]", "m[0]", "1000000000000 * 2", `cat("0123456789", "01234567890")`, nulls(41), nestedLists(6), "foo()", "len()", "len(1)", "len(" + strings.Repeat("1, ", 40) + "1)", "index + 1", "key.x", "len(val)", "1 < db", "db ? 1 : 2"} {
		text := "res a { x = " + e + ` } res db { } res m each {p = 1} { } res c count 2 { } res none count 0 { }`
		plans(t, impl.State{}, [][2]string{{text, "value 0"}, {"local n = 1 out o = a " + text, "value 2"}})
		plans(t, there("a {id = 1}", "db {id = 2}", "!x {}"), [][2]string{{text, "value 0"}, {"res e { } " + text, "value 1"}})
	}
	plans(t, impl.State{}, [][2]string{
		{"res a { a = true ? 1 : foo() b = false && foo() }", "create a {a = 1, b = false} of 0; keep 0"}, {"res a { a = 1 b = foo() c = 1 }", "value 0"}, {"res a count 2 { a = index == 1 ? foo() : 1 }", "value 0"}, {"res a count 1 { a = index == 1 ? foo() : 1 }", "create a[0] {a = 1} of 0; keep 0"},
		{`res a each {p = 1, q = "x"} { a = val + 1 }`, "value 0"}, {"res a count 0 { a = foo() }", "keep 0"},
		// One by one in the order of the graph.
		{"res a { x = foo() } res b { x = 1 + true }", "value 0"}, {"res b { x = 1 + true } res a { x = foo() }", "value 0"},
		{"res a { x = foo() y = b } res b { x = 1 + true }", "value 1"}, {"res a { x = foo() y = c } res b { x = 1 + true } res c { }", "value 1"}, {"res a { x = foo() y = c } res c { } res b { x = 1 + true }", "value 0"},
		{"res a { x = b } res b { x = c } res c { x = foo() } res d { x = foo() }", "value 2"}, {"res a { x = b y = foo() } res d { x = foo() } res b { }", "value 1"},
	})
	// What is known by what is there may have no value, where it had one while it was unknown.
	text := "res a { x = b.id + 1 } res b { }"
	plans(t, impl.State{}, [][2]string{{text, "create b {} of 1; create a {x = ?} of 0 needs b; keep 0"}})
	plans(t, there("b {id = 4}"), [][2]string{{text, "create a {x = 5} of 0 needs b; keep 1"}})
	plans(t, there(`b {id = "four"}`), [][2]string{{text, "value 0"}})
	plans(t, there(`!b {id = "four"}`), [][2]string{{text, "replace b {} of 1; create a {x = ?} of 0 needs b; keep 0"}})
	plans(t, there(`b {}`), [][2]string{{text, "value 0"}})
}

// TestAttributesThatAreTooGreat: with id they may have MaxParts and be MaxDeep.
func TestAttributesThatAreTooGreat(t *testing.T) {
	plans(t, impl.State{}, [][2]string{
		{"res a { x = " + nulls(39) + " }", "big 0"}, {"res b { } local n = 1 res a { x = " + nulls(39) + " }", "big 2"}, {"res a { x = " + nulls(20) + " y = " + nulls(19) + " }", "big 0"}, {"res a { a = " + nulls(34) + " b = 1 c = 1 d = 1 e = 1 f = 1 }", "big 0"},
		{"res a { x = " + nestedLists(5) + " }", "big 0"}, {"res a { a = 1 x = {a = {a = {a = {a = 1}}}} }", "big 0"}, {"res a { x = " + nulls(40) + " }", "big 0"},
		{"res a { x = b } res b { x = " + nulls(37) + " }", "big 0"}, {"res a { x = b } res b { x = " + nestedLists(4) + " }", "big 0"}, {"res a { x = b } res b count 1 { x = [[]] }", "create b[0] {x = [[]]} of 1; create a {x = [{id = ?, x = [[]]}]} of 0 needs b[0]; keep 0"}, {"res a { x = b } res b count 1 { x = [[[]]] }", "big 0"},
		// What has no value counts ahead of it in one, and one by one in the order of the graph.
		{"res a { x = " + nulls(39) + " y = foo() }", "value 0"}, {"res a { x = " + nulls(39) + " } res b { y = foo() }", "big 0"}, {"res b { y = foo() } res a { x = " + nulls(39) + " }", "value 0"},
		{"res b { x = a y = foo() } res a { x = " + nulls(39) + " }", "big 1"}, {"res a { x = b.id y = " + nulls(38) + " } res b { y = foo() }", "value 1"},
	})
	for _, text := range []string{"res a { x = " + nulls(38) + " }", "res a { x = " + nulls(20) + " y = " + nulls(18) + " }", "res a { a = " + nulls(33) + " b = 1 c = 1 d = 1 e = 1 f = 1 }", "res a { x = " + nestedLists(4) + " }", "res a { x = {a = {a = {a = 1}}} }", "res a { x = b } res b { x = " + nulls(35) + " }", "res a { x = b.x } res b { x = " + nestedLists(4) + " }"} {
		if p, code, item := impl.PlanOf(configFrom(text), impl.State{}); code != impl.CfWell || item != 0 || len(p.Acts) == 0 {
			t.Error(text, code, item)
		}
	}
	// With id they are so whatever id the entry has, and whether it has one.
	for _, s := range []impl.State{there("a {x = 1}"), there("a {id = 1, x = 1}"), there("a {id = [1, 2, 3], x = 1}"), calm(3, false, entry("a", 1, vMap("x", wide(39)), ""))} {
		plans(t, s, [][2]string{{"res a { x = " + nulls(39) + " }", "big 0"}, {"res a { x = " + nulls(38) + " }", "update a {x = " + nulls(38) + "} of 0; keep 0"}})
	}
}

// TestMoreNeedsThanMayBe: MaxDeps, and one more.
func TestMoreNeedsThanMayBe(t *testing.T) {
	some := " res m count 5 { } res n count 3 { } res o { }"
	made := "create m[0] {} of 1; create m[1] {} of 1; create m[2] {} of 1; create m[3] {} of 1; create m[4] {} of 1; create n[0] {} of 2; create n[1] {} of 2; create n[2] {} of 2; "
	plans(t, impl.State{}, [][2]string{
		{"res a { x = len(m) y = len(n) }" + some, made + "create a {x = 5, y = 3} of 0 needs m[0] m[1] m[2] m[3] m[4] n[0] n[1] n[2]; create o {} of 3; keep 0"},
		{"res a { x = len(m) y = len(n) z = o.id }" + some, "big 0"}, {"local l = 1 res a { x = true ? 1 : [m, n, o] }" + some, "big 1"}, {"res a count 0 { x = [m, n, o] }" + some, made + "create o {} of 3; keep 0"},
		{"res a { x = m y = n z = foo(o) }" + some, "value 0"}, {"res a { x = m y = n z = o }" + some + " res z { x = foo() }", "big 0"}, {"res z { x = foo() } res a { x = m y = n z = o }" + some, "value 0"},
		{"res a { x = 1 } res b { x = len(m) y = len(n) z = o.id }" + some, "big 1"},
	})
	// What is there already plays no part.
	plans(t, there("a {x = 5, y = 3}"), [][2]string{{"res a { x = 5 y = true ? 3 : [m, n, o] }" + some, "big 0"}})
}

// TestAttributesOfOnes: locals, index, key and val.
func TestAttributesOfOnes(t *testing.T) {
	plans(t, impl.State{}, [][2]string{
		{"", "keep 0"}, {"local a = 1", "keep 0"}, {"out a = 1", "keep 0"}, {"out a = foo()", "keep 0"}, {"out a = " + nulls(40), "keep 0"},
		{"res a { }", "create a {} of 0; keep 0"}, {"res a { x = 1 y = \"t\" z = [null, true, {k = 2}] }", `create a {x = 1, y = "t", z = [null, true, {k = 2}]} of 0; keep 0`},
		{"res a { x = index y = key z = val }", "create a {x = null, y = null, z = null} of 0; keep 0"},
		{"res a { x = $n y = $m.k } local m = {k = $n + 1} local n = 4", "create a {x = 4, y = 5} of 0; keep 0"},
		{"local n = 2 res a count $n { i = $n x = index y = key z = val }", "create a[0] {i = 2, x = 0, y = null, z = null} of 1; create a[1] {i = 2, x = 1, y = null, z = null} of 1; keep 0"},
		{"res a each {p = 7, q = [1, {k = null}]} { x = index y = key z = val }", `create a["p"] {x = null, y = "p", z = 7} of 0; create a["q"] {x = null, y = "q", z = [1, {k = null}]} of 0; keep 0`},
		{"res a each {} { x = key } res b count 0 { x = index }", "keep 0"},
		{"res id { kind = 1 } res kind { ida = 2 kind = id }", "create id {kind = 1} of 0; create kind {ida = 2, kind = {id = ?, kind = 1}} of 1 needs id; keep 0"},
	})
}

// TestWhatResourcesAre while all ones are new.
func TestWhatResourcesAre(t *testing.T) {
	all := " res b { k = 5 } res c count 2 { k = index } res m each {p = 7, q = 8} { k = val } res no count 0 { k = 1 } res none each {} { k = 1 }"
	made := `create b {k = 5} of 1; create c[0] {k = 0} of 2; create c[1] {k = 1} of 2; create m["p"] {k = 7} of 3; create m["q"] {k = 8} of 3; `
	for e, want := range map[string]string{
		"b": "{id = ?, k = 5}", "b.k": "5", "b.id": "?", `b["k"]`: "5", "len(b)": "2", "b.id == 1": "?", "keys(b)": `["id", "k"]`,
		"c": "[{id = ?, k = 0}, {id = ?, k = 1}]", "c[1]": "{id = ?, k = 1}", "c[1].k": "1", "c[0].id": "?", "len(c)": "2",
		"m": "{p = {id = ?, k = 7}, q = {id = ?, k = 8}}", `m["q"].k`: "8", "m.p.k": "7", "m.p.id": "?", "keys(m)": `["p", "q"]`, "vals(m)[1].k": "8",
		"no": "[]", "none": "{}", "len(no)": "0", "len(none)": "0", "no == []": "true", "none == {}": "true",
		"[b.k, c[0].k, m.p.k, len(no), len(none)]": "[5, 0, 7, 0, 0]",
	} {
		needs := ""
		for _, c := range [][2]string{{"b", " b"}, {"c", " c[0] c[1]"}, {"m", ` m["p"] m["q"]`}} {
			if slices.Contains(saidBy(impl.ExRes, exprFrom(e)), c[0]) {
				needs += c[1]
			}
		}
		if needs != "" {
			needs = " needs" + needs
		}
		rest := "create a {x = " + want + "} of 0" + needs + "; "
		got := planned(configFrom("res a { x = "+e+" }"+all), impl.State{})
		// It comes as soon as all that it needs is told.
		if strings.Replace(got, rest, "", 1) != made+"keep 0" || !strings.Contains(got, rest) {
			t.Errorf("%s: %s, wanted %s", e, got, rest)
		}
	}
}

// TestWhatIsMadeAnew: what those see that need it.
func TestWhatIsMadeAnew(t *testing.T) {
	text := "res a { x = b } res b { k = 5 kind = 1 }"
	for now, want := range map[string]string{
		// Made, kept, updated, replaced.
		"c {}":                                   "create b {k = 5, kind = 1} of 1; create a {x = {id = ?, k = 5, kind = 1}} of 0 needs b; delete c; keep 0",
		"b {id = 7, k = 5, kind = 1}":            "create a {x = {id = 7, k = 5, kind = 1}} of 0 needs b; keep 1",
		"b {id = [1, {x = 2}], k = 5, kind = 1}": "create a {x = {id = [1, {x = 2}], k = 5, kind = 1}} of 0 needs b; keep 1",
		"b {k = 5, kind = 1}":                    "create a {x = {k = 5, kind = 1}} of 0 needs b; keep 1",
		"b {id = 7, k = 4, kind = 1}":            "update b {k = 5, kind = 1} of 1; create a {x = {id = 7, k = 5, kind = 1}} of 0 needs b; keep 0",
		"b {id = 7, kind = 1, z = 3}":            "update b {k = 5, kind = 1} of 1; create a {x = {id = 7, k = 5, kind = 1}} of 0 needs b; keep 0",
		"b {id = null, k = 4, kind = 1}":         "update b {k = 5, kind = 1} of 1; create a {x = {id = null, k = 5, kind = 1}} of 0 needs b; keep 0",
		"b {k = 4, kind = 1}":                    "update b {k = 5, kind = 1} of 1; create a {x = {id = ?, k = 5, kind = 1}} of 0 needs b; keep 0",
		"b {id = 7, k = 5, kind = 2}":            "replace b {k = 5, kind = 1} of 1; create a {x = {id = ?, k = 5, kind = 1}} of 0 needs b; keep 0",
		"!b {id = 7, k = 5, kind = 1}":           "replace b {k = 5, kind = 1} of 1; create a {x = {id = ?, k = 5, kind = 1}} of 0 needs b; keep 0",
		"!b {k = 4, kind = 1}":                   "replace b {k = 5, kind = 1} of 1; create a {x = {id = ?, k = 5, kind = 1}} of 0 needs b; keep 0",
	} {
		plans(t, there(now), [][2]string{{text, want}})
	}
	// On and on: what is replaced makes unknown what needs it, and that what needs it.
	text = "res a { x = b.x } res b { x = c.id } res c { kind = 2 } res d { x = b.id }"
	plans(t, there("a {id = 1, x = 3}", "b {id = 2, x = 3}", "c {id = 3, kind = 2}", "d {id = 4, x = 2}"), [][2]string{{text, "keep 4"}})
	plans(t, there("a {id = 1, x = 3}", "b {id = 2, x = 3}", "c {id = 3, kind = 1}", "d {id = 4, x = 2}"), [][2]string{{text, "replace c {kind = 2} of 2; update b {x = ?} of 1 needs c; update a {x = ?} of 0 needs b; keep 1"}})
	plans(t, there("a {id = 1, x = 3}", "!b {id = 2, x = 3}", "c {id = 3, kind = 2}", "d {id = 4, x = 2}"), [][2]string{{text, "replace b {x = 3} of 1 needs c; update d {x = ?} of 3 needs b; keep 2"}})
	// Ones of one resource, each by itself.
	plans(t, there("c[0] {id = 1, k = 0}", "c[1] {id = 2, k = 7}", "!c[2] {id = 3, k = 2}", "c[7] {}"), [][2]string{{"res a { x = c } res c count 4 { k = index }", "update c[1] {k = 1} of 1; replace c[2] {k = 2} of 1; create c[3] {k = 3} of 1; create a {x = [{id = 1, k = 0}, {id = 2, k = 1}, {id = ?, k = 2}, {id = ?, k = 3}]} of 0 needs c[0] c[1] c[2] c[3]; delete c[7]; keep 1"}})
	plans(t, there(`m["p"] {id = 1, k = 1}`, `m["q"] {id = 2}`, `m["s"] {id = 2}`, "m {}", "m[0] {}"), [][2]string{{"res a { x = m } res m each {p = 1, q = 2, r = 3} { k = val }", `update m["q"] {k = 2} of 1; create m["r"] {k = 3} of 1; create a {x = {p = {id = 1, k = 1}, q = {id = 2, k = 2}, r = {id = ?, k = 3}}} of 0 needs m["p"] m["q"] m["r"]; delete m; delete m["s"]; delete m[0]; keep 1`}})
}

// TestMoreThanMaxPartsInRes: what all resources are together does not matter, nor what one of them is, unless it is taken whole.
func TestMoreThanMaxPartsInRes(t *testing.T) {
	three := " res b { k = " + nulls(30) + " } res c { k = " + nulls(30) + " } res d { k = " + nulls(30) + " }"
	last := func(text string, s impl.State) string {
		p, code, item := impl.PlanOf(configFrom(text), s)
		if code != impl.CfWell || len(p.Acts) == 0 {
			return flawText(code, item)
		}
		return textByRule(p.Acts[len(p.Acts)-1].Val)
	}
	five := " res b count 5 { k = [index, 1, 2, 3, 4, 5] }"
	each := " res b each {p = 1, q = 2, r = 3, s = 4, t = 5} { k = [val, 1, 2, 3, 4, 5] }"
	deep := " res b count 1 { k = [[[7]]] }"
	for _, c := range [][3]string{
		{"res a { x = [b.id, c.id, d.id, len(b.k) + len(c.k) + len(d.k)] }", three, "{x = [?, ?, ?, 87]}"}, {"res a { x = [b.k == c.k, len(d), b == b] }", three, "{x = [true, 2, ?]}"},
		{"res a { x = b[4].k[0] y = b[0].id }", five, "{x = 4, y = ?}"}, {"res a { x = b.t.k[0] y = b[\"p\"].id }", each, "{x = 5, y = ?}"}, {"res a { x = true ? 1 : b }", five, "{x = 1}"}, {"res a { x = b[2] y = len(b[2].k) z = b[2].k == [2, 1, 2, 3, 4, 5] }", five, "{x = {id = ?, k = [2, 1, 2, 3, 4, 5]}, y = 6, z = true}"},
		// Whole, it is too great for an attribute, and for what asks for values that may be.
		{"res a { x = b }", five, "big 0"}, {"res a { x = b }", each, "big 0"}, {"res a { x = [b] }", five, "value 0"}, {"res a { x = {k = b}.k }", five, "value 0"}, {"res a { x = len(b) }", five, "value 0"}, {"res a { x = keys(b) }", each, "value 0"}, {"res a { x = has(b, \"p\") }", each, "value 0"}, {"res a { x = b == 1 y = 1 == b }", five, "{x = ?, y = ?}"},
		// And so it is with depth.
		{"res a { x = b[0].k[0][0][0] y = b[0].k }", deep, "{x = 7, y = [[[7]]]}"}, {"res a { x = b[0] }", deep, "big 0"}, {"res a { x = len(b[0]) }", deep, "{x = 2}"}, {"res a { x = len(b) }", deep, "value 0"}, {"res a { x = b == [] }", deep, "{x = ?}"},
	} {
		if got := last(c[0]+c[1], impl.State{}); got != c[2] {
			t.Errorf("%s%s: %s, wanted %s", c[0], c[1], got, c[2])
		}
	}
	// Known by what is there, it is the same.
	var l []string
	for i := range 5 {
		l = append(l, "b["+strconv.Itoa(i)+"] {id = "+strconv.Itoa(i)+", k = ["+strconv.Itoa(i)+", 1, 2, 3, 4, 5]}")
	}
	for e, want := range map[string]string{"b[3].id": "{x = 3}", "b": "big 0", "len(b)": "value 0", "b == b": "{x = ?}", "[] == b": "{x = ?}", "b == []": "{x = ?}", "b[3] == b[3]": "{x = true}"} {
		if got := last("res a { x = "+e+" }"+five, there(l...)); got != want {
			t.Errorf("%s: %s, wanted %s", e, got, want)
		}
	}
	// One's value alone may be too great by the id that its entry has.
	s := calm(3, false, entry("b", 1, vMap("id k", wide(30), vInt(1)), ""))
	long := " res b { k = " + nulls(20) + " }"
	for e, want := range map[string]string{"b.id[0]": "{x = null}", "b": "big 0", "len(b.id)": "{x = 29}", "len(b)": "value 0", "b.k": "{x = " + nulls(20) + "}"} {
		if got := last("res a { x = "+e+" }"+long, s); got != want {
			t.Errorf("%s: %s, wanted %s", e, got, want)
		}
	}
}

// actCases are what is there, the attributes that are wanted, their values, and what is to be done.
var actCases = [][4]string{
	// No entry.
	{"", "", "{}", "create"}, {"", "kind = 2 x = 1", "{kind = 2, x = 1}", "create"}, {"", "x = u.id", "{x = ?}", "create"},
	// Just the same.
	{"{}", "", "{}", "keep"}, {"{id = 1}", "", "{}", "keep"}, {"{id = 1, x = 2}", "x = 2", "{x = 2}", "keep"}, {"{x = 2}", "x = 2", "{x = 2}", "keep"}, {"{id = null, x = 2}", "x = 2", "{x = 2}", "keep"},
	{"{id = 1, kind = 2}", "kind = 2", "{kind = 2}", "keep"}, {"{id = 1, kind = null}", "kind = null", "{kind = null}", "keep"}, {"{id = {x = 1}, kind = {k = []}, x = 2}", "kind = {k = []} x = 2", "{kind = {k = []}, x = 2}", "keep"},
	// An id further in is one of the attributes.
	{"{id = 1, x = [{id = 1}]}", "x = [{id = 1}]", "{x = [{id = 1}]}", "keep"}, {"{id = 1, x = [{id = 1}]}", "x = [{}]", "{x = [{}]}", "update"}, {"{id = 1, x = [{id = 1}]}", "x = [{id = 2}]", "{x = [{id = 2}]}", "update"},
	// Other attributes.
	{"{id = 1}", "x = 1", "{x = 1}", "update"}, {"{id = 1, x = 1}", "", "{}", "update"}, {"{id = 1, x = 1}", "x = 2", "{x = 2}", "update"}, {"{id = 1, x = 1}", "y = 1", "{y = 1}", "update"}, {"{x = 1}", `x = "1"`, `{x = "1"}`, "update"}, {"{x = 1}", "x = true", "{x = true}", "update"}, {"{x = null}", "", "{}", "update"}, {"{}", "x = null", "{x = null}", "update"}, {"{id = 1, x = []}", "x = {}", "{x = {}}", "update"},
	{"{id = 1, kind = 1, x = 1}", "kind = 1 x = 2", "{kind = 1, x = 2}", "update"}, {"{kind = [1, {k = 2}]}", "kind = [1, {k = 2}] x = 1", "{kind = [1, {k = 2}], x = 1}", "update"}, {"{kind = null, x = 1}", "kind = null", "{kind = null}", "update"},
	// Unknown ones.
	{"{id = 1, x = 1}", "x = u.id", "{x = ?}", "update"}, {"{id = 1, kind = 1, x = [1]}", "kind = 1 x = [u.id]", "{kind = 1, x = [?]}", "update"}, {"{}", "x = u.id", "{x = ?}", "update"},
	// Kind of one alone, not alike, not known.
	{"{id = 1}", "kind = 1", "{kind = 1}", "replace"}, {"{id = 1, kind = 1}", "", "{}", "replace"}, {"{id = 1}", "kind = null", "{kind = null}", "replace"}, {"{id = 1, kind = null}", "", "{}", "replace"}, {"{kind = 1, x = 1}", "x = 1", "{x = 1}", "replace"}, {"{x = 1}", "kind = 1 x = 1", "{kind = 1, x = 1}", "replace"},
	{"{id = 1, kind = 1}", "kind = 2", "{kind = 2}", "replace"}, {"{id = 1, kind = 1}", `kind = "1"`, `{kind = "1"}`, "replace"}, {"{id = 1, kind = [1]}", "kind = [1, 2]", "{kind = [1, 2]}", "replace"}, {"{id = 1, kind = {k = 1}}", "kind = {k = 2} x = 1", "{kind = {k = 2}, x = 1}", "replace"}, {"{kind = 1}", "kind = null", "{kind = null}", "replace"},
	{"{id = 1, kind = 1}", "kind = u.id", "{kind = ?}", "replace"}, {"{id = 1, kind = [1]}", "kind = [u.id]", "{kind = [?]}", "replace"}, {"{id = 1}", "kind = u.id", "{kind = ?}", "replace"},
	// What is near kind is not.
	{"{id = 1, kin = 1, kinds = 1}", "kin = 2 kinds = 2", "{kin = 2, kinds = 2}", "update"}, {"{id = 1, x = {kind = 1}}", "x = {kind = 2}", "{x = {kind = 2}}", "update"},
}

// TestWhichAct: by what is there and what is wanted.
func TestWhichAct(t *testing.T) {
	for _, c := range actCases {
		was, attrs, val, act := c[0], c[1], c[2], c[3]
		text, ahead, rest := "res a { "+attrs+" }", "", " of 0; keep 0"
		if strings.Contains(attrs, "u.id") {
			text, ahead, rest = text+" res u { }", "create u {} of 1; ", " of 0 needs u; keep 0"
		}
		want := ahead + act + " a " + val + rest
		if act == "keep" {
			want = "keep 1"
		}
		if was == "" {
			plans(t, impl.State{}, [][2]string{{text, want}})
			continue
		}
		plans(t, there("a "+was), [][2]string{{text, want}})
		// With Taint all is made anew, the same or not.
		plans(t, there("!a "+was), [][2]string{{text, ahead + "replace a " + val + rest}})
	}
	// Whether it is open, and what is under way, plays no part, nor do the Deps and the time of what is there.
	v := valueFrom("{id = 1, x = 2}")
	for _, s := range []impl.State{calm(5, true, entry("a", 5, v, "z")), busy(5, "a", impl.AcReplace, entry("a", 2, v, "a")), busy(5, "b", impl.AcCreate, entry("a", 2, v, ""))} {
		plans(t, s, [][2]string{{"res a { x = 2 }", "keep 1"}, {"res a { x = 2 } res b { }", "create b {} of 1; keep 1"}, {"res a { x = 3 }", "update a {x = 3} of 0; keep 0"}, {"", "delete a; keep 0"}})
	}
}

// TestOrderOfActs: each behind what it needs, of several the least number.
func TestOrderOfActs(t *testing.T) {
	for text, want := range map[string]string{
		"res c { } res b { } res a { }":                                                                         "c b a",
		"res c { x = b } res b { x = a } res a { }":                                                             "a b c",
		"res c { } res a { x = b } res b { }":                                                                   "c b a",
		"res a { x = d } res b { } res c { } res d { x = c }":                                                   "b c d a",
		"res a { x = e } res b { x = d } res c { } res d { x = c } res e { }":                                   "c d b e a",
		"res a { x = b[0].id } res b count 2 { x = c.p.id } res c each {p = 1, q = 2} { } res d { }":            `c["p"] c["q"] b[0] b[1] a d`,
		"res b count 2 { x = c.id } res a { x = len(b) } res c { } res d { x = a y = c }":                       "c b[0] b[1] a d",
		"res a count 2 { x = z } res b count 2 { } res z { } res c count 2 { x = b }":                           "b[0] b[1] z a[0] a[1] c[0] c[1]",
		"res z { x = a y = b } res a { x = b } res b { } res y { x = z }":                                       "b a z y",
		"res a count 5 { x = b } res b count 5 { x = c[0].id } res c count 1 { x = d } res d count 5 { x = 1 }": "d[0] d[1] d[2] d[3] d[4] c[0] b[0] b[1] b[2] b[3] b[4] a[0] a[1] a[2] a[3] a[4]",
	} {
		p, code, _ := impl.PlanOf(configFrom(text), impl.State{})
		var got []string
		for _, a := range p.Acts {
			got = append(got, string(a.Addr))
		}
		if code != impl.CfWell || strings.Join(got, " ") != want || p.Same != 0 {
			t.Errorf("%s: %v, wanted %s", text, got, want)
		}
	}
	// What stays is left away, and all others keep their order.
	plans(t, there("b {id = 1, x = 2}", "d {id = 2}"), [][2]string{{"res a { x = b.id } res b { x = d.id } res c { x = a.id } res d { } res e { x = d.id }", "create a {x = 1} of 0 needs b; create c {x = ?} of 2 needs a; create e {x = 2} of 4 needs d; keep 2"}})
	plans(t, there("a {id = 1, x = 9}"), [][2]string{{"res a { x = b.id } res b { }", "create b {} of 1; update a {x = ?} of 0 needs b; keep 0"}})
}

// TestWhatIsToGo: behind all others, each ahead of what it needs.
func TestWhatIsToGo(t *testing.T) {
	none := []impl.Item(nil)
	for _, c := range [][2]string{
		{"", "keep 0"}, {"a", "delete a; keep 0"}, {"a b c", "delete a; delete b; delete c; keep 0"}, {"a>b b>c c", "delete a; delete b; delete c; keep 0"}, {"c>b b>a a", "delete c; delete b; delete a; keep 0"},
		{"a b>a c", "delete b; delete a; delete c; keep 0"}, {"a b>a c>a d", "delete b; delete c; delete a; delete d; keep 0"}, {"a b>a,c c d>b", "delete d; delete b; delete a; delete c; keep 0"}, {"a b>c c>a d", "delete b; delete c; delete a; delete d; keep 0"},
		// By bytes, not by numbers.
		{`a["k"] a[0] a[10] a[2] a`, `delete a; delete a["k"]; delete a[0]; delete a[10]; delete a[2]; keep 0`}, {"a[10]>a[0] a[2]>a[10] a[0]", "delete a[2]; delete a[10]; delete a[0]; keep 0"},
		// Deps of which there is no entry.
		{"a>z b>a,q c", "delete b; delete a; delete c; keep 0"}, {"a>b", "delete a; keep 0"},
		// Rings, and what is behind them: what one on a ring needs must wait for it.
		{"a>a", "delete a; keep 0"}, {"a>b b>a", "delete a; delete b; keep 0"}, {"a>a b", "delete b; delete a; keep 0"}, {"a>b b>a c d>c", "delete d; delete c; delete a; delete b; keep 0"}, {"a>a,b b c", "delete c; delete a; delete b; keep 0"}, {"a c>c,a b", "delete b; delete a; delete c; keep 0"},
		{"a>b b>a,c c d", "delete d; delete a; delete b; delete c; keep 0"}, {"b>c c>b,a a>d d e", "delete e; delete a; delete b; delete c; delete d; keep 0"},
		// What is ahead of a ring is not on it nor behind it.
		{"c>a a>b b>a", "delete c; delete a; delete b; keep 0"}, {"z>y y>a a>b b>a", "delete z; delete y; delete a; delete b; keep 0"},
	} {
		s := impl.State{Serial: 5}
		for _, word := range strings.Fields(c[0]) {
			addr, deps, _ := strings.Cut(word, ">")
			s.Entries = append(s.Entries, entry(addr, 1, vMap("id x", vInt(1), vInt(2)), strings.ReplaceAll(deps, ",", " ")))
			slices.SortFunc(s.Entries[len(s.Entries)-1].Deps, func(a []byte, b []byte) int { return cmp.Compare(string(a), string(b)) })
		}
		slices.SortFunc(s.Entries, func(a impl.Entry, b impl.Entry) int { return cmp.Compare(string(a.Addr), string(b.Addr)) })
		if got := planned(none, s); got != c[1] {
			t.Errorf("%s: %s, wanted %s", c[0], got, c[1])
		}
		if got, ok := impl.RestoreOf(s, impl.State{}); !ok || planText(got) != c[1] {
			t.Errorf("%s: %s, wanted %s", c[0], planText(got), c[1])
		}
	}
	// Those that stay play no part in the order of those that go.
	s := there("a {} needs b", "b {} needs c", "c {}", "d {} needs a c", "!e {}")
	plans(t, s, [][2]string{
		{"", "delete d; delete a; delete b; delete c; delete e; keep 0"}, {"res b { }", "delete d; delete a; delete c; delete e; keep 1"}, {"res a { } res d { }", "delete b; delete c; delete e; keep 2"}, {"res d { x = 1 } res z { } res e { }", "update d {x = 1} of 0; create z {} of 1; replace e {} of 2; delete a; delete b; delete c; keep 0"},
		{"res a count 1 { }", "create a[0] {} of 0; delete d; delete a; delete b; delete c; delete e; keep 0"},
	})
	// As many as can be: MaxEntries new ones, and MaxEntries that go.
	p, code, _ := impl.PlanOf(configFrom(manyOnes(16)), calm(3, false, manyEntries(16)...))
	if code != impl.CfWell || len(p.Acts) != 2*impl.MaxEntries || p.Same != 0 || impl.Asks(p) != 32 {
		t.Error(planText(p))
	}
}
