package tests

import (
	"slices"
	"strconv"
	"strings"
	"testing"

	"loop.example/g00407/impl"
)

// configFrom reads a configuration that the tests themselves wrote.
func configFrom(text string) []impl.Item {
	l, code, at := impl.ConfigRead([]byte(text))
	if code != impl.RdWell {
		panic(text + " at " + strconv.Itoa(at))
	}
	return l
}

// flawWords are the codes as the tables below tell them.
var flawWords = []string{impl.CfForm: "form", impl.CfRing: "ring", impl.CfValue: "value", impl.CfUses: "uses", impl.CfMany: "many", impl.CfBig: "big", impl.CfLack: "lack"}

// flawText is the word of a code that refuses, and the number of the item.
func flawText(code int, item int) string {
	if code < 0 || code >= len(flawWords) {
		return "no code: " + strconv.Itoa(code)
	}
	return flawWords[code] + " " + strconv.Itoa(item)
}

// localsText is the text of what LocalsOf tells: the map, or the word of the code and the number.
func localsText(l []impl.Item) string {
	v, code, item := impl.LocalsOf(l)
	switch {
	case code == impl.CfWell && item == 0:
		return string(impl.ValText(v))
	case code == impl.CfWell || !alike(v, impl.Value{}):
		return "a value beside a code, or a number beside none"
	}
	return flawText(code, item)
}

// locals fails where the locals of a configuration are not what stands beside it.
func locals(t *testing.T, table [][2]string) {
	t.Helper()
	for _, c := range table {
		if got := localsText(configFrom(c[0])); got != c[1] {
			t.Errorf("%s: %s, wanted %s", c[0], got, c[1])
		}
		// What is wrong with locals is so for the ones, too, ahead of all else.
		if _, code, item := impl.InstsOf(configFrom(c[0])); c[1][0] != '{' && flawText(code, item) != c[1] {
			t.Errorf("%s: InstsOf tells %s, wanted %s", c[0], flawText(code, item), c[1])
		}
	}
}

func TestExpandLimits(t *testing.T) {
	for name, c := range map[string][2]int{
		"MaxCount": {impl.MaxCount, 5}, "CfWell": {impl.CfWell, 0}, "CfForm": {impl.CfForm, 1}, "CfRing": {impl.CfRing, 2}, "CfValue": {impl.CfValue, 3},
		"CfUses": {impl.CfUses, 4}, "CfMany": {impl.CfMany, 5}, "CfBig": {impl.CfBig, 6}, "CfLack": {impl.CfLack, 7},
	} {
		if c[0] != c[1] {
			t.Error(name, c)
		}
	}
}

// TestNoConfigHasOnes: what is not ConfigOk is refused ahead of all else, whatever else is wrong with it.
func TestNoConfigHasOnes(t *testing.T) {
	for why, l := range badConfigs() {
		for place, all := range map[string][]impl.Item{
			"":                       l,
			", behind a ring":        append([]impl.Item{itLocal("zz", eLocal("zz"))}, l...),
			", ahead of a use":       append(slices.Clone(l), itLocal("zz", eRes("zz"))),
			", ahead of too many":    append(slices.Clone(l), itCount(itRes("zz", ""), eInt(9))),
			", behind what has none": append([]impl.Item{itRes("zz", "id", eLocal("zz"))}, l...),
		} {
			if got := localsText(all); got != "form 0" {
				t.Error(why+place, got)
			}
			if got := onesText(all); got != "form 0" {
				t.Error(why+place, got)
			}
			for _, addr := range []string{"", "a", "zz", "zz[0]"} {
				if got := impl.InstNeeds(all, []byte(addr)); len(got) != 0 {
					t.Error(why+place, addr, texts(got))
				}
			}
		}
	}
}

func TestLocalsHaveValues(t *testing.T) {
	locals(t, [][2]string{
		{"", "{}"},
		{"res web { a = 1 }", "{}"},
		{"out a = 1 res b count 2 { } out b = 2", "{}"},
		{"local a = 1", "{a = 1}"},
		{"local b = 1 local a = 2", "{a = 2, b = 1}"},
		{`local a = null local b = true local c = "x" local d = [] local e = {} local f = -1`, `{a = null, b = true, c = "x", d = [], e = {}, f = -1}`},
		{`local a = {k = [1, "y"]} local b = $a.k[1] local c = keys($a) local d = $b == "y" ? len($c) : foo()`, `{a = {k = [1, "y"]}, b = "y", c = ["k"], d = 1}`},
		{"local a = 1 local b = $a + 1 local c = $b + $a", "{a = 1, b = 2, c = 3}"},
		{"local c = $b + $a local b = $a + 1 local a = 1", "{a = 1, b = 2, c = 3}"},
		{"local b = $a + 1 local c = $b + $a local a = 1", "{a = 1, b = 2, c = 3}"},
		{"local a = $d local d = $b * $c local b = $e + 1 local c = $e + 2 local e = 3", "{a = 20, b = 4, c = 5, d = 20, e = 3}"},
		{"local a = $b local b = $c local c = $d local d = $e local e = $f local f = $g local g = $h local h = $i local i = $j local j = $k local k = $l local l = 7", "{a = 7, b = 7, c = 7, d = 7, e = 7, f = 7, g = 7, h = 7, i = 7, j = 7, k = 7, l = 7}"},
		{"local l = $k local k = $j local j = 1 local a = 1", "{a = 1, j = 1, k = 1, l = 1}"},
		{"local a = [$b, $b, $b] local b = {x = $c} local c = 1", "{a = [{x = 1}, {x = 1}, {x = 1}], b = {x = 1}, c = 1}"},
		{"local a = true ? 1 : foo() local b = false && 1 local c = true || $d.x local d = 5", "{a = 1, b = false, c = true, d = 5}"},
		// All names of one kind: what is called so in another kind plays no part.
		{"local web = 1 res web { a = $web } out web = web.a", "{web = 1}"},
		{"out a = 5 local a = $b res b { } res a { } local b = 2 out b = 6", "{a = 2, b = 2}"},
		{"res a { id = 1 } local a = 1 out b = $none", "{a = 1}"},
		{"local a = 1 res web count foo() { } res db each 1 { x = none.id }", "{a = 1}"},
	})
}

// barredParts are what a local may not use, at the top and deep, asked or not.
var barredParts = []string{"%", "%.id", "%[0]", "[%]", "[1, {a = 1, b = [%]}]", "{a = %}", "!%", "-%", "1 + %", "% < 1", "% == %", "true || %", "false && %", "true ? 1 : %", "false ? % : 1", "% ? 1 : 2", "len(%)", "foo(1, %)", "[1][%]", "((((((1 + (2 * %)))))))"}

func TestLocalsThatUseMore(t *testing.T) {
	for _, word := range []string{"web", "index", "key", "val"} {
		for _, form := range barredParts {
			e := strings.ReplaceAll(form, "%", word)
			locals(t, [][2]string{
				{"local a = " + e, "uses 0"},
				{"res web { } local a = " + e, "uses 1"},
				{"out web = 1 local web = 1 local a = " + e + " res web { }", "uses 2"},
				{"local a = 1 local b = 2 local c = " + e + " local d = " + e, "uses 2"},
			})
		}
	}
	// What is called like one, but is none.
	locals(t, [][2]string{
		{`local a = {index = 1, key = 2, val = 3} local b = $a.index + $a.key local c = "val"`, `{a = {index = 1, key = 2, val = 3}, b = 3, c = "val"}`},
		{"local web = 2 local a = $web", "{a = 2, web = 2}"},
		{"local a = len([])", "{a = 0}"},
	})
}

func TestLocalsThatNameWhatIsNot(t *testing.T) {
	for _, form := range barredParts {
		for _, word := range []string{"$none", "$index", "$res", "$web", "$o", "$aa", "$b"} {
			e := strings.ReplaceAll(form, "%", word)
			locals(t, [][2]string{
				{"local a = " + e, "lack 0"},
				{"res web { } out o = 1 res b { } out b = 1 local a = " + e, "lack 4"},
				{"local c = 1 local a = " + e + " local d = " + e, "lack 1"},
			})
		}
	}
}

// TestWhichFlawOfLocalsCounts: item by item what they use and name, ahead of rings and of what has no value.
func TestWhichFlawOfLocalsCounts(t *testing.T) {
	locals(t, [][2]string{
		// In one local what is used counts, wherever it stands.
		{"local a = $none + web", "uses 0"}, {"local a = web + $none", "uses 0"}, {"local a = [$none, [[val]]]", "uses 0"},
		{"local a = $a + $none", "lack 0"}, {"local a = $none + $a", "lack 0"}, {"local a = $a + index", "uses 0"},
		// In two the first one.
		{"local a = $none local b = web", "lack 0"}, {"local a = web local b = $none", "uses 0"},
		{"local a = 1 local b = $none local c = 2 local d = key", "lack 1"}, {"local a = 1 local b = key local c = 2 local d = $none", "uses 1"},
		{"res x { } local a = $none local b = web", "lack 1"}, {"out x = 1 local a = web local b = $none", "uses 1"},
		{"local a = $none local b = web + $none", "lack 0"}, {"local a = web + $none local b = $none", "uses 0"},
		// Rings ahead and behind.
		{"local a = $a local b = $none", "lack 1"}, {"local b = $none local a = $a", "lack 0"},
		{"local a = $a local b = web", "uses 1"}, {"local b = web local a = $a", "uses 0"},
		{"local a = $b local b = $a local c = $none + web", "uses 2"}, {"local a = $b local b = $a + $none", "lack 1"},
		// What has no value ahead and behind.
		{"local a = foo() local b = $none", "lack 1"}, {"local b = $none local a = foo()", "lack 0"},
		{"local a = 1 + true local b = val", "uses 1"}, {"local b = val local a = 1 + true", "uses 0"},
		{"local a = foo($none)", "lack 0"}, {"local a = foo(index)", "uses 0"},
		{"local a = " + nulls(40) + " local b = $none", "lack 1"}, {"local a = " + nulls(40) + " local b = index", "uses 1"},
	})
}

// nulls is the text of a list of so many parts in all.
func nulls(parts int) string {
	return "[" + strings.TrimSuffix(strings.Repeat("null, ", parts-1), ", ") + "]"
}

// nestedLists is the text of so many lists in each other.
func nestedLists(depth int) string {
	return strings.Repeat("[", depth) + strings.Repeat("]", depth)
}

func TestRingsOfLocals(t *testing.T) {
	locals(t, [][2]string{
		{"local a = $a", "ring 0"}, {"local a = [{k = 1 + $a}]", "ring 0"}, {"local a = true ? 1 : $a", "ring 0"}, {"local a = true || $a", "ring 0"},
		{"local a = $b local b = $a", "ring 0"}, {"local b = $a local a = $b", "ring 0"},
		{"local a = $b local b = $c local c = $d local d = $e local e = $a", "ring 0"},
		// Locals that are no part of it, ahead, between and behind.
		{"local a = 1 local b = $b", "ring 1"}, {"local b = $b local a = 1", "ring 0"},
		{"local a = 1 local b = $c local d = 2 local c = $b local e = $a", "ring 1"},
		{"local a = $e local b = $c local d = $a local c = $b local e = 1", "ring 1"},
		{"local a = 1 local b = $a local c = $b local d = $d", "ring 3"},
		// The first of all that have none may be no part of the ring itself, but hang on it.
		{"local a = $b local b = $b", "ring 0"}, {"local a = 1 local b = $d local c = $d local d = $d", "ring 1"},
		{"local a = $b + $c local b = $c local c = $c local d = 1", "ring 0"}, {"local b = $b local a = $b", "ring 0"},
		{"local x = 1 local a = [$x, $b] local b = $c local c = $d local d = $c", "ring 1"},
		// Two rings.
		{"local a = 1 local b = $b local c = $c", "ring 1"}, {"local a = $d local b = $c local c = $b local d = $a", "ring 0"},
		// The number is the one among all items.
		{"res a { } out a = 1 local a = $a", "ring 2"}, {"res a { } local b = 1 out a = 1 local a = $a res c { }", "ring 3"},
		{"out b = 1 local a = $b res a { } local b = $a", "ring 1"},
		// Ahead of what is wrong with all that are no locals.
		{"res a { id = 1 } local a = $a", "ring 1"}, {"out a = index local a = $a res b count 9 { x = none }", "ring 1"},
	})
	l := configFrom("local l = 1")
	for _, name := range strings.Fields("a b c d e f g h i j k") {
		l = append([]impl.Item{itLocal(name, eLocal(string(name[0]+1)))}, l...)
	}
	if got := localsText(l); !strings.HasPrefix(got, "{a = 1, b = 1, ") {
		t.Error(got)
	}
	slices.Reverse(l)
	if got := localsText(l); !strings.HasPrefix(got, "{a = 1, b = 1, ") {
		t.Error(got)
	}
	// The last one of the chain on its middle: what hangs on it, but for the last ones, has none.
	for i, x := range l {
		if string(x.Name) == "l" {
			l[i] = itLocal("l", eLocal("f"))
		}
	}
	if got := localsText(l); got != "ring 0" {
		t.Error(got)
	}
}

func TestLocalsWithoutValue(t *testing.T) {
	// EvType, EvLack, EvOver, EvWord and EvForm.
	for _, e := range []string{
		"1 + true", "$one.x", "{a = 1}.b", "[1][1]", "1000000000000 + $one", `cat("01234567890", "0123456789")`, nulls(41), nestedLists(6),
		"foo()", "len()", "len(" + strings.Repeat("1, ", 40) + "1)",
	} {
		locals(t, [][2]string{
			{"local one = 1 local a = " + e, "value 1"}, {"local a = " + e + " local one = 1", "value 0"},
			{"res x { } local one = 1 out y = 1 local a = " + e, "value 3"},
			// A ring beside it, ahead and behind.
			{"local r = $r local one = 1 local a = " + e, "value 2"}, {"local one = 1 local a = " + e + " local r = $r", "value 1"},
			{"local r = $s local one = 1 local a = " + e + " local s = $r", "value 2"},
			{"local r = $r local a = $r == " + e + " local one = 1", "ring 0"},
			// What would be wrong with all that are no locals.
			{"res x { id = none } local one = 1 local a = " + e, "value 2"},
		})
	}
	locals(t, [][2]string{
		// Of two the first that is asked, which is the first all of whose locals have a value.
		{"local a = foo() local b = foo()", "value 0"},
		{"local a = $b + true local c = foo() local b = 1", "value 1"},
		{"local a = $b + true local b = 1 local c = foo()", "value 0"},
		{"local a = $c + true local b = 1 local c = 2 local d = foo()", "value 0"},
		{"local a = $d + true local b = $c + true local c = 1 local d = 2", "value 1"},
		{"local a = $d + true local b = $c + true local d = 2 local c = 1", "value 0"},
		{"local a = $b local b = $c local c = foo()", "value 2"},
		{"local a = $b local b = $c.x local c = 1", "value 1"},
		// What is not asked has no part in it.
		{"local a = true ? 1 : foo() local b = $a", "{a = 1, b = 1}"},
	})
}

func TestLocalsThatAreTooBig(t *testing.T) {
	locals(t, [][2]string{
		{"local a = " + nulls(39), "{a = " + nulls(39) + "}"},
		{"local a = " + nulls(40), "big 0"},
		{"local a = " + nulls(41), "value 0"},
		{"local a = " + nulls(39) + " local b = 1", "big 1"},
		{"local b = 1 local a = " + nulls(39), "big 1"},
		{"local b = 1 local a = " + nulls(38), "{a = " + nulls(38) + ", b = 1}"},
		{"local a = " + nulls(20) + " local b = " + nulls(19), "{a = " + nulls(20) + ", b = " + nulls(19) + "}"},
		{"local a = " + nulls(20) + " local b = " + nulls(20), "big 1"},
		{"local a = " + nulls(20) + " local b = " + nulls(20) + " local c = 1", "big 1"},
		{"local a = " + nulls(10) + " local b = [$a, $a] local c = " + nulls(8), "{a = " + nulls(10) + ", b = [" + nulls(10) + ", " + nulls(10) + "], c = " + nulls(8) + "}"},
		{"local a = " + nulls(10) + " local b = [$a, $a] local c = " + nulls(9), "big 2"},
		// Which one is one too many is told by the order in which they come to have values.
		{"local a = [$b, $b] local b = " + nulls(13), "big 0"},
		{"local a = [$b] local c = 1 local b = " + nulls(37), "big 0"},
		{"local a = [$b] local b = " + nulls(37) + " local c = 1", "big 0"},
		{"local c = " + nulls(20) + " local a = $b local b = " + nulls(19), "big 1"},
		{"local c = " + nulls(20) + " local a = $b local b = " + nulls(20), "big 2"},
		{"local a = " + nestedLists(4), "{a = [[[[]]]]}"},
		{"local a = " + nestedLists(5), "big 0"},
		{"local a = " + nestedLists(6), "value 0"},
		{"local b = 1 local a = [$c] local c = " + nestedLists(4), "big 1"},
		{"local b = 1 local a = [$c] local c = " + nestedLists(3), "{a = [[[[]]]], b = 1, c = [[[]]]}"},
		{"local a = {k = {k = {k = {}}}} local b = {k = {k = {k = {k = {}}}}}", "big 1"},
		// Beside a ring, and beside what has no value.
		{"local r = $r local a = " + nulls(40), "big 1"}, {"local a = " + nulls(40) + " local r = $r", "big 0"},
		{"local a = " + nulls(40) + " local b = foo()", "big 0"}, {"local b = foo() local a = " + nulls(40), "value 0"},
		{"res x { } out y = 1 local a = " + nestedLists(5), "big 2"},
		// Ahead of what is wrong with all that are no locals.
		{"res x { id = none } local a = " + nulls(40), "big 1"},
	})
}
