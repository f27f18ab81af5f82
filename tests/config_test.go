package tests

import (
	"math"
	"slices"
	"strconv"
	"strings"
	"testing"

	"loop.example/g00407/impl"
)

func itLocal(name string, e impl.Expr) impl.Item {
	return impl.Item{Kind: impl.ItLocal, Name: []byte(name), Exprs: []impl.Expr{e}}
}

func itOut(name string, e impl.Expr) impl.Item {
	return impl.Item{Kind: impl.ItOut, Name: []byte(name), Exprs: []impl.Expr{e}}
}

// itRes takes attributes' names, parted by blanks, and as many expressions.
func itRes(name string, names string, l ...impl.Expr) impl.Item {
	return impl.Item{Kind: impl.ItRes, Name: []byte(name), Names: keysOf(names), Exprs: l}
}

func itCount(x impl.Item, by impl.Expr) impl.Item {
	x.Many, x.By = impl.MnCount, by
	return x
}

func itEach(x impl.Item, by impl.Expr) impl.Item {
	x.Many, x.By = impl.MnEach, by
	return x
}

// manyItems are so many of a kind.
func manyItems(n int) []impl.Item {
	var out []impl.Item
	for _, name := range keysOf(manyKeys(n)) {
		out = append(out, itLocal(string(name), eNull))
	}
	return out
}

// goodConfigs: configurations that may be, with their texts.
var goodConfigs = []struct {
	l    []impl.Item
	text string
}{
	{nil, ""},
	{[]impl.Item{itLocal("n", eInt(2))}, "local n = 2\n"},
	{[]impl.Item{itOut("all", eRes("web"))}, "out all = web\n"},
	{[]impl.Item{itRes("net", "")}, "res net { }\n"},
	{[]impl.Item{itRes("net", "a", eInt(1))}, "res net { a = 1 }\n"},
	{[]impl.Item{itRes("net", "count null res", eInt(1), eNull, eText("}"))}, "res net { count = 1 null = null res = \"}\" }\n"},
	{[]impl.Item{itCount(itRes("web", "size zone", eIndex, eSays(impl.ExGet, "id", eRes("net"))), eLocal("n"))}, "res web count $n { size = index zone = net.id }\n"},
	{[]impl.Item{itEach(itRes("web", "k v", eKey, eVal), eMap("a b", eInt(1), eInt(2)))}, "res web each {a = 1, b = 2} { k = key v = val }\n"},
	{[]impl.Item{itCount(itRes("web", ""), eNull)}, "res web count null { }\n"},
	{[]impl.Item{itCount(itRes("web", ""), eMap(""))}, "res web count {} { }\n"},
	{[]impl.Item{itEach(itRes("web", "a", eMap("")), eMap(""))}, "res web each {} { a = {} }\n"},
	{[]impl.Item{itEach(itRes("a", "a", eRes("a")), eOf(impl.ExIf, eRes("a"), eRes("a"), eLocal("each")))}, "res a each a ? a : $each { a = a }\n"},
	{[]impl.Item{itLocal("a", eNull), itRes("a", ""), itOut("a", eNull)}, "local a = null\nres a { }\nout a = null\n"},
	{[]impl.Item{itOut("b", eNull), itRes("a", ""), itLocal("c", eLocal("d")), itLocal("a", eOf(impl.ExNeg, eLocal("res")))}, "out b = null\nres a { }\nlocal c = $d\nlocal a = -$res\n"},
	{[]impl.Item{itLocal("n", eInt(2)), itCount(itRes("web", "size zone", eIndex, eSays(impl.ExGet, "id", eRes("net"))), eLocal("n")), itRes("net", ""), itOut("all", eRes("web"))}, "local n = 2\nres web count $n { size = index zone = net.id }\nres net { }\nout all = web\n"},
	{[]impl.Item{itRes("net", "a b c d e f", eNull, eNull, eNull, eNull, eNull, eNull)}, "res net { a = null b = null c = null d = null e = null f = null }\n"},
	{manyItems(12), "local " + strings.ReplaceAll(manyKeys(12), " ", " = null\nlocal ") + " = null\n"},
}

// fullConfigs have MaxNodes parts.
func fullConfigs() [][]impl.Item {
	return [][]impl.Item{
		{itLocal("a", wideExpr(150))},
		{itLocal("a", wideExpr(100)), itLocal("b", wideExpr(49)), itOut("c", eNull)},
		{itRes("a", "a b c d e f", wideExpr(25), wideExpr(25), wideExpr(25), wideExpr(25), wideExpr(25), wideExpr(25))},
		{itCount(itRes("a", "a", wideExpr(75)), wideExpr(75))},
		{itEach(itRes("a", ""), wideExpr(150))},
		{itEach(itRes("a", ""), wideExpr(149)), itRes("b", ""), itRes("c", ""), itRes("d", "a", eNull)},
		{itRes("a", "a", wideExpr(149)), itCount(itRes("b", ""), eNull), itRes("c", "")},
	}
}

// badConfigs: configurations that may not be, each for one reason.
func badConfigs() map[string][]impl.Item {
	out := map[string][]impl.Item{
		"13 items":                          manyItems(13),
		"far too many items":                make([]impl.Item, 100000),
		"two locals of a name":              {itLocal("a", eNull), itLocal("b", eNull), itLocal("a", eTrue)},
		"two resources of a name":           {itRes("a", ""), itCount(itRes("a", ""), eNull)},
		"two outs of a name":                {itOut("a", eNull), itRes("a", ""), itOut("a", eNull)},
		"7 attributes":                      {itRes("a", manyKeys(7), make([]impl.Expr, 7)...)},
		"7 attributes without names":        {itRes("a", "", make([]impl.Expr, 7)...)},
		"far too many attributes":           {itRes("a", "", make([]impl.Expr, 100000)...)},
		"local without an expression":       {{Kind: impl.ItLocal, Name: []byte("a")}},
		"out without an expression":         {{Kind: impl.ItOut, Name: []byte("a")}},
		"local with two":                    {{Kind: impl.ItLocal, Name: []byte("a"), Exprs: []impl.Expr{eNull, eNull}}},
		"out with two":                      {{Kind: impl.ItOut, Name: []byte("a"), Exprs: []impl.Expr{eNull, eNull}}},
		"local with a name":                 {{Kind: impl.ItLocal, Name: []byte("a"), Names: keysOf("a"), Exprs: []impl.Expr{eNull}}},
		"out with a name":                   {{Kind: impl.ItOut, Name: []byte("a"), Names: keysOf("a"), Exprs: []impl.Expr{eNull}}},
		"local with an empty name more":     {{Kind: impl.ItLocal, Name: []byte("a"), Names: [][]byte{nil}, Exprs: []impl.Expr{eNull}}},
		"local with count":                  {itCount(itLocal("a", eNull), eNull)},
		"local with each":                   {itEach(itLocal("a", eNull), eMap(""))},
		"out with count":                    {itCount(itOut("a", eNull), eInt(1))},
		"out with each":                     {itEach(itOut("a", eNull), eMap(""))},
		"resource with a name too few":      {itRes("a", "a", eNull, eNull)},
		"resource with a name too many":     {itRes("a", "a b", eNull)},
		"resource with names alone":         {itRes("a", "a b")},
		"resource with expressions alone":   {itRes("a", "", eNull)},
		"names descend":                     {itRes("a", "b a", eNull, eNull)},
		"a name twice":                      {itRes("a", "a a", eNull, eNull)},
		"names descend at the end":          {itRes("a", "a c b", eNull, eNull, eNull)},
		"a name that is none":               {itRes("a", "a B", eNull, eNull)},
		"a name that is empty":              {{Kind: impl.ItRes, Name: []byte("a"), Names: [][]byte{nil}, Exprs: []impl.Expr{eNull}}},
		"many below":                        {{Kind: impl.ItRes, Name: []byte("a"), Many: -1}},
		"many above":                        {{Kind: impl.ItRes, Name: []byte("a"), Many: 3}},
		"many far above":                    {{Kind: impl.ItRes, Name: []byte("a"), Many: math.MaxInt, By: eNull}},
		"local with many below":             {{Kind: impl.ItLocal, Name: []byte("a"), Many: -1, Exprs: []impl.Expr{eNull}}},
		"two, of 75 and 76 parts":           {itLocal("a", wideExpr(75)), itLocal("b", wideExpr(76))},
		"151 parts with count":              {itCount(itRes("a", "a", wideExpr(75)), wideExpr(76))},
		"151 parts with each":               {itEach(itRes("a", "a", wideExpr(150)), eNull)},
		"151 parts of attributes":           {itRes("a", "a b c", wideExpr(50), wideExpr(50), wideExpr(51))},
		"151 parts, one of the last":        {itLocal("a", wideExpr(149)), itRes("b", "a", eNull), itOut("c", eNull)},
		"151 parts, one of the last's many": {itLocal("a", wideExpr(150)), itCount(itRes("b", ""), eNull)},
	}
	for _, kind := range []int{-1, 3, math.MinInt, math.MaxInt} {
		for n := range 2 {
			out["kind "+strconv.Itoa(kind)+" with "+strconv.Itoa(n)] = []impl.Item{{Kind: kind, Name: []byte("a"), Exprs: make([]impl.Expr, n)}}
		}
	}
	addBadNames(out)
	addBadParts(out)
	return out
}

func addBadNames(out map[string][]impl.Item) {
	for _, name := range slices.Concat(keptNames, notNames) {
		out["local called "+name] = []impl.Item{itLocal(name, eNull)}
		out["resource called "+name] = []impl.Item{itRes(name, "")}
		out["out called "+name] = []impl.Item{itOut(name, eNull)}
	}
	for _, name := range notNames {
		out["attribute called "+name] = []impl.Item{{Kind: impl.ItRes, Name: []byte("a"), Names: [][]byte{[]byte(name)}, Exprs: []impl.Expr{eNull}}}
	}
}

// addBadParts puts expressions that may not be at each place, and ones that may be where none is to be.
func addBadParts(out map[string][]impl.Item) {
	bad := endlessExprs()
	for why, e := range badExprs() {
		bad[why] = e
	}
	for why, e := range bad {
		out["local: "+why] = []impl.Item{itLocal("a", e)}
		out["out: "+why] = []impl.Item{itOut("a", e)}
		out["attribute: "+why] = []impl.Item{itRes("a", "a b", eNull, e)}
		out["count: "+why] = []impl.Item{itCount(itRes("a", "a", eNull), e)}
		out["each: "+why] = []impl.Item{itEach(itRes("a", ""), e)}
		out["one: "+why] = []impl.Item{{Kind: impl.ItRes, Name: []byte("a"), By: e}}
	}
	for _, by := range []impl.Expr{eFalse, eInt(0), eText(""), eIndex, eLocal("a"), eMap(""), eOf(impl.ExList), {N: 1}, {S: []byte("a")}, {K: keysOf("a")}, {K: [][]byte{nil}}, {Kids: []impl.Expr{eNull}}} {
		for _, x := range []impl.Item{itLocal("a", eNull), itRes("a", ""), itOut("a", eNull)} {
			x.By = by
			out["by "+strconv.Itoa(by.Kind)+" of one "+strconv.Itoa(x.Kind)+" "+strconv.Itoa(len(out))] = []impl.Item{x}
		}
	}
}

func TestConfigsThatMayBe(t *testing.T) {
	for _, c := range goodConfigs {
		if !impl.ConfigOk(c.l) || !configByRule(c.l) {
			t.Error(c.text)
		}
	}
	for i, l := range fullConfigs() {
		if !impl.ConfigOk(l) || string(impl.ConfigText(l)) != configTextByRule(l) {
			t.Error(i)
		}
		more := append(slices.Clone(l), itOut("z", eNull))
		if impl.ConfigOk(more) || len(impl.ConfigText(more)) != 0 {
			t.Error(i, "and one part more")
		}
		more = append(slices.Clone(l), itRes("z", ""))
		if !impl.ConfigOk(more) {
			t.Error(i, "and an item without parts")
		}
	}
}

func TestConfigsThatMayNotBe(t *testing.T) {
	for why, l := range badConfigs() {
		for place, all := range map[string][]impl.Item{"": l, ", behind one": append([]impl.Item{itRes("z", "")}, l...), ", ahead of one": append(slices.Clone(l), itRes("z", ""))} {
			if impl.ConfigOk(all) {
				t.Error(why + place)
			}
			if text := impl.ConfigText(all); len(text) != 0 {
				t.Error(why+place, string(text))
			}
		}
	}
}

// TestEachFieldOfItems gives each kind each field that another one may have, and takes its own away.
func TestEachFieldOfItems(t *testing.T) {
	may := 0
	for kind := -1; kind <= 3; kind++ {
		for many := -1; many <= 3; many++ {
			for _, by := range []impl.Expr{eNull, eTrue, eMap(""), {N: 1}, {Kind: impl.ExBool, N: 2}} {
				for _, names := range []string{"", "a", "a b", "b a", "a b c"} {
					for exprs := range 4 {
						x := impl.Item{Kind: kind, Name: []byte("web"), Many: many, By: by, Names: keysOf(names), Exprs: make([]impl.Expr, exprs)}
						want := configByRule([]impl.Item{x})
						if impl.ConfigOk([]impl.Item{x}) != want {
							t.Error(x)
						}
						if want {
							may++
						}
					}
				}
			}
		}
	}
	// Locals and outs with one expression; resources with as many names as expressions, and each By that may be.
	if may != 2+4*(1+3+3) {
		t.Error(may)
	}
}

func TestConfigTexts(t *testing.T) {
	for _, c := range goodConfigs {
		if text := string(impl.ConfigText(c.l)); text != c.text || configTextByRule(c.l) != c.text {
			t.Errorf("%s, wanted %s", text, c.text)
		}
	}
}

// readsItems fails where s is not read as these, with RdWell and 0.
func readsItems(t *testing.T, s string, want []impl.Item) {
	t.Helper()
	l, code, at := impl.ConfigRead([]byte(s))
	if code != impl.RdWell || at != 0 || !alike(l, want) {
		t.Errorf("%q: %d at %d", s, code, at)
	}
}

// refusesConfig fails where s is not refused with this code at this place, beside nothing.
func refusesConfig(t *testing.T, s string, code int, at int) {
	t.Helper()
	l, c, place := impl.ConfigRead([]byte(s))
	if c != code || place != at || len(l) != 0 {
		t.Errorf("%q: %d at %d, wanted %d at %d", s, c, place, code, at)
	}
}

func TestConfigsComeBackFromTheirTexts(t *testing.T) {
	for _, c := range goodConfigs {
		readsItems(t, c.text, c.l)
	}
	for _, l := range append(drawnConfigs(1500), fullConfigs()...) {
		text := impl.ConfigText(l)
		if len(text) > impl.MaxSource {
			refusesConfig(t, string(text), impl.RdLong, 0)
			continue
		}
		readsItems(t, string(text), l)
	}
}

func TestConfigGrammar(t *testing.T) {
	web := itRes("web", "a b", eInt(1), eInt(2))
	for s, want := range map[string][]impl.Item{
		"":                                                  nil,
		" \n ":                                              nil,
		"local a=1":                                         {itLocal("a", eInt(1))},
		"local a = 1 local b = 2":                           {itLocal("a", eInt(1)), itLocal("b", eInt(2))},
		"local a=b out a=b res a{}":                         {itLocal("a", eRes("b")), itOut("a", eRes("b")), itRes("a", "")},
		"\nlocal\na\n=\n(1)\n":                              {itLocal("a", eInt(1))},
		"res web{a=1 b=2}":                                  {web},
		"res web{a=1b=2}":                                   {web},
		"res web\n{\n  a = 1\n  b = 2\n}\n":                 {web},
		"res web count 3{a=1 b=2}":                          {itCount(web, eInt(3))},
		"res web each $m { a = 1 b = 2 }":                   {itEach(web, eLocal("m"))},
		"res web count $count { a = 1 b = 2 }":              {itCount(web, eLocal("count"))},
		"res web count a.each { a = 1 b = 2 }":              {itCount(web, eSays(impl.ExGet, "each", eRes("a")))},
		"res web each {} { a = 1 b = 2 }":                   {itEach(web, eMap(""))},
		"res web each {a = 1, b = {}} {a = 1 b = 2}":        {itEach(web, eMap("a b", eInt(1), eMap("")))},
		"res web each {} [0] {a = 1 b = 2}":                 {itEach(web, eOf(impl.ExItem, eMap(""), eInt(0)))},
		"res web count 1 ? 2 : 3 { a = 1 b = 2 }":           {itCount(web, eOf(impl.ExIf, eInt(1), eInt(2), eInt(3)))},
		"res web { local = 1 null = a out = b }":            {itRes("web", "local null out", eInt(1), eRes("a"), eRes("b"))},
		"res web { a = 1 - 2 b = -3 }":                      {itRes("web", "a b", eOf(impl.ExSub, eInt(1), eInt(2)), eOf(impl.ExNeg, eInt(3)))},
		"res web { a = f (1) b = c [2] }":                   {itRes("web", "a b", eSays(impl.ExCall, "f", eInt(1)), eOf(impl.ExItem, eRes("c"), eInt(2)))},
		"res web { a = {b = 1} b = {a = 1} }":               {itRes("web", "a b", eMap("b", eInt(1)), eMap("a", eInt(1)))},
		"out a = 1\nout b = a.out\nout c = $out\nout d = 2": {itOut("a", eInt(1)), itOut("b", eSays(impl.ExGet, "out", eRes("a"))), itOut("c", eLocal("out")), itOut("d", eInt(2))},
		"local a = 1 == 2 ? {out = 1} : [3]\nres b { }":     {itLocal("a", eOf(impl.ExIf, eOf(impl.ExEq, eInt(1), eInt(2)), eMap("out", eInt(1)), eOf(impl.ExList, eInt(3)))), itRes("b", "")},
	} {
		readsItems(t, s, want)
	}
}

func TestConfigsWithATokenThatCannotStand(t *testing.T) {
	for _, c := range []struct {
		s  string
		at int
	}{
		{"1", 0}, {"a = 1", 0}, {"web", 0}, {"count", 0}, {"null", 0}, {"{", 0}, {`"local"`, 0}, {"= 1", 0}, {"  )", 2}, {"$local", 0},
		{"local", 5}, {"local ", 6}, {"local a", 7}, {"local a =", 9}, {"local a 1", 8}, {"local = 1", 6}, {"local 1 = 1", 6}, {"local \"a\" = 1", 6}, {"local a == 1", 8}, {"local a : 1", 8}, {"local a = =", 10}, {"local a { }", 8}, {"local a count 1", 8}, {"local a = 1 2", 12}, {"local a = 1,", 11}, {"local a = 1 b = 2", 12}, {"local a = local b = 1", 10}, {"local a, b = 1", 7}, {"local $a = 1", 6}, {"local a = 1 }", 12},
		{"out", 3}, {"out a", 5}, {"out a = ", 8}, {"out a { }", 6}, {"out a = 1 )", 10}, {"out a = out", 8},
		{"res", 3}, {"res a", 5}, {"res a =", 6}, {"res a = 1", 6}, {"res a {", 7}, {"res a { b", 9}, {"res a { b =", 11}, {"res a { b = 1", 13}, {"res a { 1 }", 8}, {"res a { b }", 10}, {"res a { b = }", 12}, {"res a { b = 1, c = 2 }", 13}, {"res a { b : 1 }", 10}, {"res a { b == 1 }", 10}, {"res a { \"b\" = 1 }", 8}, {"res a { } }", 10}, {"res a } ", 6}, {"res a [ ]", 6}, {"res a { } 1", 10}, {"res { }", 4}, {"res a b { }", 6}, {"res a 1 { }", 6}, {"res a { $b = 1 }", 8}, {"res a { b.c = 1 }", 9},
		{"res a count", 11}, {"res a count { }", 15}, {"res a count { } ", 16}, {"res a count 1", 13}, {"res a count 1 2", 14}, {"res a count 1 each 2 { }", 14}, {"res a each each { }", 11}, {"res a count count 1 { }", 12}, {"res a each {b = 1}", 18}, {"res a each { b = 1 c = 2 }", 19}, {"res a each = 1 { }", 11}, {"res a count(1)", 14}, {"res a each ] { }", 11},
		{"res web { b = 1 a = 2 }", 16}, {"res web { a = 1 a = 2 }", 16}, {"res web { a = 1 c = 2 b = 3 }", 22}, {"res web { ab = 1 a = 2", 17}, {"res web { b = 1 a", 16}, {"res web { b = {b = 1, a = 2} c = 3 }", 22}, {"res web each {b = 1, a = 2} { }", 21}, {"res web { c = {b = 1} b = 1 }", 22}, {"res a { b = 1 }\nres c { b = 1 a = 2 }", 30}, {"local a = {b = 1, a = 2}", 18},
		{"local a = 1\nlocal b = \n", 23}, {"local a = 1\nlocal 2", 18}, {"local a = (1\nlocal b = 2", 13}, {"local a = [1\nout b = 2", 13}, {"local a = f(\nout b = 2", 13}, {"res a { b = 1\nres c { } }", 18},
	} {
		refusesConfig(t, c.s, impl.RdForm, c.at)
	}
	// A kept word where a WORD must be; where a NAME must be, it may stand.
	for _, name := range keptNames {
		refusesConfig(t, "local "+name+" = 1", impl.RdForm, 6)
		refusesConfig(t, "out "+name+" = 1", impl.RdForm, 4)
		refusesConfig(t, "res "+name+" { }", impl.RdForm, 4)
		refusesConfig(t, "res a { }\nres "+name+" count 1 { }", impl.RdForm, 14)
		readsItems(t, "res a { "+name+" = $"+name+" }", []impl.Item{itRes("a", name, eLocal(name))})
	}
}

// TestConfigCodes: each other code, with its place.
func TestConfigCodes(t *testing.T) {
	item := "local a = 1"
	readsItems(t, item+strings.Repeat(" ", 1200-len(item)), []impl.Item{itLocal("a", eInt(1))})
	refusesConfig(t, item+strings.Repeat(" ", 1201-len(item)), impl.RdLong, 0)
	readsItems(t, strings.Repeat("\n", 1200), nil)
	refusesConfig(t, strings.Repeat("\n", 1201), impl.RdLong, 0)
	for s, at := range map[string]int{"~": 0, "local A = 1": 6, "local a = 01": 10, "local abcdefghi = 1": 6, "res a { b = \"c }": 12, "local a = 1 & 2": 12, "# local": 0, "local a = 1;": 11, "res a {\tb = 1 }": 7, "res a { b = 1 }\r\n": 15} {
		refusesConfig(t, s, impl.RdByte, at)
	}
	deep := "!!!!!!!!!!!1"
	refusesConfig(t, "local a = "+deep, impl.RdBig, 20)
	refusesConfig(t, "out a = "+deep, impl.RdBig, 18)
	refusesConfig(t, "res a { b = 1 c = "+deep+" }", impl.RdBig, 28)
	refusesConfig(t, "res a count "+deep+" { }", impl.RdBig, 22)
	refusesConfig(t, "res a each "+deep+" { }", impl.RdBig, 21)
	refusesConfig(t, "local a = 1\nlocal b = "+deep+"\nlocal c = "+deep, impl.RdBig, 32)
	// Each expression begins at 1 again.
	ten := "[[[[[[[[[[]]]]]]]]]]"
	if l, code, _ := impl.ConfigRead([]byte("res a each " + ten + " { a = " + ten + " b = " + ten + " } out c = " + ten)); code != impl.RdWell || len(l) != 2 {
		t.Error(code)
	}
}

// TestReadButNoConfig: RdBig at the end, where all is read and is not ConfigOk.
func TestReadButNoConfig(t *testing.T) {
	rows := func(n int, line string) string {
		var out strings.Builder
		for _, name := range keysOf(manyKeys(n)) {
			out.WriteString(strings.ReplaceAll(line, "%", string(name)))
		}
		return out.String()
	}
	ones := func(n int) string { return "[" + strings.Repeat("1,", n-2) + "1]" }
	for _, s := range []string{
		rows(13, "local % = 1\n"), rows(13, "res % { }\n"), rows(40, "out % = 1\n"),
		"local a = 1\nlocal a = 2", "res a { }\nres b { }\nres a count 1 { }\n", "out a = 1 out a = 1 ",
		"res a { " + rows(7, "% = 1 ") + "}", "res a { " + rows(30, "% = 1 ") + "} ",
		"local a = " + ones(151), "local a = " + ones(75) + "\nout a = " + ones(76), "res a count " + ones(75) + " { b = " + ones(76) + " }", "res a { b = " + ones(50) + " c = " + ones(50) + " d = " + ones(51) + " }\n\n",
		"local a = 1+1+1+1+1+1+1+1+1+1+1", "res a count b.b.b.b.b.b.b.b.b.b.b { }",
	} {
		refusesConfig(t, s, impl.RdBig, len(s))
	}
	for _, s := range []string{
		rows(12, "local % = 1\n"), rows(12, "res % { }\n"), "local a = 1\nres a { }\nout a = 2\n",
		"res a { " + rows(6, "% = 1 ") + "}", "local a = " + ones(75) + "\nout a = " + ones(75), "res a count " + ones(75) + " { b = " + ones(75) + " } res b { }",
	} {
		if l, code, at := impl.ConfigRead([]byte(s)); code != impl.RdWell || at != 0 || !impl.ConfigOk(l) {
			t.Error(s, code, at)
		}
	}
}

// TestWhichReasonOfConfigsCounts: where several apply, the one that the chapter names first.
func TestWhichReasonOfConfigsCounts(t *testing.T) {
	deep, twice := "local a = !!!!!!!!!!!1", "local a = 1 local a = 2"
	for _, s := range []string{"~", ")", deep, twice} {
		refusesConfig(t, s+strings.Repeat(" ", 1200), impl.RdLong, 0)
	}
	refusesConfig(t, ") ~", impl.RdByte, 2)
	refusesConfig(t, deep+" ~", impl.RdByte, 23)
	refusesConfig(t, twice+" 00", impl.RdByte, 24)
	refusesConfig(t, deep+" )", impl.RdForm, 23)
	refusesConfig(t, deep+"\nres a { b = 1 a = 2 }", impl.RdForm, 37)
	refusesConfig(t, deep+"\nlocal", impl.RdForm, 28)
	refusesConfig(t, twice+" )", impl.RdForm, 24)
	refusesConfig(t, twice+" "+deep, impl.RdBig, 44)
}

// config draws one that keeps all rules but, perhaps, the limits, and that names are not taken twice.
func (d *draw) config() []impl.Item {
	var out []impl.Item
	for range d.upTo(6) {
		name := []string{"a", "b", "c", "web", "net", "abcdefgh", "nul"}[d.upTo(7)]
		switch d.upTo(4) {
		case 0:
			out = append(out, itLocal(name, d.expr(1+d.upTo(4))))
			continue
		case 1:
			out = append(out, itOut(name, d.expr(1+d.upTo(4))))
			continue
		}
		x := impl.Item{Kind: impl.ItRes, Name: []byte(name), Many: d.upTo(3), Names: d.someOf(6, "a", "b", "count", "null", "size", "zone", "zz")}
		if x.Many != impl.MnOne {
			x.By = d.expr(1 + d.upTo(3))
		}
		for range x.Names {
			x.Exprs = append(x.Exprs, d.expr(1+d.upTo(3)))
		}
		out = append(out, x)
	}
	return out
}

// drawnConfigs are so many that may be.
func drawnConfigs(n int) [][]impl.Item {
	d := draw(n + 41)
	var out [][]impl.Item
	for len(out) < n {
		if l := d.config(); configByRule(l) {
			out = append(out, l)
		}
	}
	return out
}

func TestConfigsByRule(t *testing.T) {
	d := draw(19)
	may, not := 0, 0
	for range 4000 {
		l := d.config()
		if len(l) > 0 && d.upTo(2) == 0 {
			x := &l[d.upTo(len(l))]
			switch d.upTo(6) {
			case 0:
				x.Kind = d.upTo(5) - 1
			case 1:
				x.Name = []byte([]string{"res", "A", "", "b"}[d.upTo(4)])
			case 2:
				x.Many = d.upTo(5) - 1
			case 3:
				x.By = d.meddledExpr(x.By)
			case 4:
				x.Names = d.someOf(3, "a", "b", "c")
			case 5:
				x.Exprs = append(x.Exprs, eNull)[d.upTo(2):]
			}
		}
		want := ""
		fine := configByRule(l)
		if fine {
			want = configTextByRule(l)
			may++
		} else {
			not++
		}
		if impl.ConfigOk(l) != fine || string(impl.ConfigText(l)) != want {
			t.Fatal(l, string(impl.ConfigText(l)), want)
		}
	}
	if may < 1000 || not < 1000 {
		t.Error(may, not, "the draws tell nothing")
	}
}

// drawnConfigSources are so many texts that may be configurations, or nearly so.
func drawnConfigSources(n int) []string {
	d := draw(n + 5)
	var out []string
	configs := drawnConfigs(n / 4)
	for i := range n {
		pieces, _ := piecesByRule(configTextByRule(configs[i/4]))
		tokens := textsOfPieces(pieces)
		if i%2 == 0 {
			tokens = nil
			for range d.upTo(5) {
				tokens = append(tokens, d.derived("item", 2+d.upTo(8))...)
			}
		}
		s := d.spaced(tokens)
		if len(s) > 500 {
			continue
		}
		if i%4 > 1 {
			s = d.meddledText(s)
		}
		out = append(out, s)
	}
	return out
}

func TestConfigSourcesByRule(t *testing.T) {
	codes := map[int]int{}
	for _, s := range drawnConfigSources(4000) {
		l, code, at := impl.ConfigRead([]byte(s))
		want, c, place := configReadByRule(s)
		if code != c || at != place || !alike(l, want) {
			t.Fatalf("%q: %d at %d, wanted %d at %d", s, code, at, c, place)
		}
		codes[code]++
		if text := impl.ConfigText(l); code == impl.RdWell && len(text) <= impl.MaxSource {
			readsItems(t, string(text), l)
		}
	}
	for _, code := range []int{impl.RdWell, impl.RdByte, impl.RdForm, impl.RdBig} {
		if codes[code] < 100 {
			t.Error(codes, "the draws tell nothing")
		}
	}
}

// TestBlanksInConfigs puts others between the tokens of a source.
func TestBlanksInConfigs(t *testing.T) {
	d := draw(13)
	for _, s := range append(drawnConfigSources(1500), "local a = !!!!!!!!!!!1", "out a = 1 out a = 2") {
		pieces, none := piecesByRule(s)
		if none >= 0 {
			continue
		}
		other := d.spaced(textsOfPieces(pieces))
		moved, _ := piecesByRule(other)
		l, code, at := impl.ConfigRead([]byte(s))
		m, c, place := impl.ConfigRead([]byte(other))
		want := len(other)
		for i, p := range pieces {
			if p.at == at {
				want = moved[i].at
			}
		}
		if code == impl.RdWell {
			want = 0
		}
		if c != code || place != want || !alike(l, m) {
			t.Fatalf("%q and %q: %d at %d, %d at %d", s, other, code, at, c, place)
		}
	}
}
