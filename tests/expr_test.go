package tests

import (
	"math"
	"regexp"
	"slices"
	"strconv"
	"strings"
	"testing"

	"loop.example/g00407/impl"
)

var eNull = impl.Expr{Kind: impl.ExNull}
var eFalse = impl.Expr{Kind: impl.ExBool}
var eTrue = impl.Expr{Kind: impl.ExBool, N: 1}
var eIndex = impl.Expr{Kind: impl.ExIndex}
var eKey = impl.Expr{Kind: impl.ExKey}
var eVal = impl.Expr{Kind: impl.ExVal}

func eInt(n int) impl.Expr        { return impl.Expr{Kind: impl.ExInt, N: n} }
func eText(text string) impl.Expr { return impl.Expr{Kind: impl.ExText, S: []byte(text)} }

// eOf is an expression that is nothing but its kind and its kids.
func eOf(kind int, kids ...impl.Expr) impl.Expr { return impl.Expr{Kind: kind, Kids: kids} }

// eSays is one that has a text or a name besides.
func eSays(kind int, says string, kids ...impl.Expr) impl.Expr {
	return impl.Expr{Kind: kind, S: []byte(says), Kids: kids}
}

// eMap takes keys, parted by blanks, and as many kids.
func eMap(keys string, kids ...impl.Expr) impl.Expr {
	return impl.Expr{Kind: impl.ExMap, K: keysOf(keys), Kids: kids}
}

func eRes(name string) impl.Expr   { return eSays(impl.ExRes, name) }
func eLocal(name string) impl.Expr { return eSays(impl.ExLocal, name) }

// wideExpr is a list of so many parts in all.
func wideExpr(parts int) impl.Expr { return eOf(impl.ExList, make([]impl.Expr, parts-1)...) }

// deepExpr is so many expressions of a sort in each other, counting the innermost, which is a null.
func deepExpr(depth int, around func(impl.Expr) impl.Expr) impl.Expr {
	e := eNull
	for range depth - 1 {
		e = around(e)
	}
	return e
}

// waysDown puts an expression one deeper, at each place that a kid can have.
var waysDown = map[string]func(impl.Expr) impl.Expr{
	"list":       func(e impl.Expr) impl.Expr { return eOf(impl.ExList, e) },
	"late list":  func(e impl.Expr) impl.Expr { return eOf(impl.ExList, eNull, eVal, e) },
	"map":        func(e impl.Expr) impl.Expr { return eMap("a b", eNull, e) },
	"get":        func(e impl.Expr) impl.Expr { return eSays(impl.ExGet, "a", e) },
	"item":       func(e impl.Expr) impl.Expr { return eOf(impl.ExItem, e, eNull) },
	"late item":  func(e impl.Expr) impl.Expr { return eOf(impl.ExItem, eNull, e) },
	"not":        func(e impl.Expr) impl.Expr { return eOf(impl.ExNot, e) },
	"neg":        func(e impl.Expr) impl.Expr { return eOf(impl.ExNeg, e) },
	"first sum":  func(e impl.Expr) impl.Expr { return eOf(impl.ExAdd, e, eNull) },
	"second or":  func(e impl.Expr) impl.Expr { return eOf(impl.ExOr, eNull, e) },
	"first if":   func(e impl.Expr) impl.Expr { return eOf(impl.ExIf, e, eNull, eNull) },
	"second if":  func(e impl.Expr) impl.Expr { return eOf(impl.ExIf, eNull, e, eNull) },
	"third if":   func(e impl.Expr) impl.Expr { return eOf(impl.ExIf, eNull, eNull, e) },
	"call":       func(e impl.Expr) impl.Expr { return eSays(impl.ExCall, "f", e) },
	"late call":  func(e impl.Expr) impl.Expr { return eSays(impl.ExCall, "f", eNull, e) },
	"second mul": func(e impl.Expr) impl.Expr { return eOf(impl.ExMul, eNull, e) },
}

// keptNames are those that the chapter keeps.
var keptNames = strings.Fields("null true false index key val local res out count each")

var aName = regexp.MustCompile(`^[a-z]{1,8}$`)
var aText = regexp.MustCompile(`^[ -~]{0,20}$`)

func aWord(s string) bool { return aName.MatchString(s) && !slices.Contains(keptNames, s) }

// namesByRule tells whether these are names, ascending.
func namesByRule(l [][]byte) bool {
	for i, name := range l {
		if !aName.Match(name) || i > 0 && string(l[i-1]) >= string(name) {
			return false
		}
	}
	return true
}

// lean is e without all that its kind is said to have; what is left must be zero.
func lean(e impl.Expr) (impl.Expr, bool) {
	kids := map[int]int{impl.ExGet: 1, impl.ExNot: 1, impl.ExNeg: 1, impl.ExItem: 2, impl.ExIf: 3}
	for kind := impl.ExMul; kind <= impl.ExOr; kind++ {
		kids[kind] = 2
	}
	says, fine := string(e.S), true
	switch e.Kind {
	case impl.ExBool:
		fine, e.N = e.N == 0 || e.N == 1, 0
	case impl.ExInt:
		fine, e.N = 0 <= e.N && e.N <= 1000000000000, 0
	case impl.ExText:
		fine, e.S = aText.MatchString(says), nil
	case impl.ExLocal, impl.ExGet:
		fine, e.S = aName.MatchString(says), nil
	case impl.ExRes:
		fine, e.S = aWord(says), nil
	case impl.ExCall:
		fine, e.S, e.Kids = aWord(says), nil, nil
	case impl.ExList:
		e.Kids = nil
	case impl.ExMap:
		fine = len(e.K) == len(e.Kids) && namesByRule(e.K)
		e.K, e.Kids = nil, nil
	}
	if n, some := kids[e.Kind]; some {
		fine = fine && len(e.Kids) == n
		e.Kids = nil
	}
	return e, fine
}

// exprByRule tells whether e may be, but for how many parts it has and how deep it goes.
func exprByRule(e impl.Expr) bool {
	left, fine := lean(e)
	if !fine || e.Kind < 0 || e.Kind > 23 || left.N != 0 || len(left.S)+len(left.K)+len(left.Kids) > 0 {
		return false
	}
	return !slices.ContainsFunc(e.Kids, func(kid impl.Expr) bool { return !exprByRule(kid) })
}

func exprParts(e impl.Expr) int {
	n := 1
	for _, kid := range e.Kids {
		n += exprParts(kid)
	}
	return n
}

func exprDepth(e impl.Expr) int {
	n := 0
	for _, kid := range e.Kids {
		n = max(n, exprDepth(kid))
	}
	return n + 1
}

// wholeByRule asks the limits, too. It must not be given what has no end.
func wholeByRule(e impl.Expr) bool {
	return exprByRule(e) && exprParts(e) <= 150 && exprDepth(e) <= 10
}

// exprTextByRule writes what may be.
func exprTextByRule(e impl.Expr) string {
	var bare, bound, tight, row []string
	for i, kid := range e.Kids {
		text := exprTextByRule(kid)
		operates := impl.ExMul <= kid.Kind && kid.Kind <= impl.ExIf
		bare = append(bare, text)
		bound = append(bound, map[bool]string{true: "(" + text + ")", false: text}[operates])
		tight = append(tight, map[bool]string{true: "(" + text + ")", false: text}[operates || kid.Kind == impl.ExNot || kid.Kind == impl.ExNeg])
		if e.Kind == impl.ExMap {
			text = string(e.K[i]) + " = " + text
		}
		row = append(row, text)
	}
	says := string(e.S)
	switch e.Kind {
	case impl.ExNull:
		return "null"
	case impl.ExBool:
		return strconv.FormatBool(e.N == 1)
	case impl.ExInt:
		return strconv.Itoa(e.N)
	case impl.ExText:
		return textByRule(vText(says))
	case impl.ExList:
		return "[" + strings.Join(row, ", ") + "]"
	case impl.ExMap:
		return "{" + strings.Join(row, ", ") + "}"
	case impl.ExLocal:
		return "$" + says
	case impl.ExRes:
		return says
	case impl.ExGet:
		return tight[0] + "." + says
	case impl.ExItem:
		return tight[0] + "[" + bare[1] + "]"
	case impl.ExNot:
		return "!" + bound[0]
	case impl.ExNeg:
		return "-" + bound[0]
	case impl.ExIf:
		return bound[0] + " ? " + bound[1] + " : " + bound[2]
	case impl.ExCall:
		return says + "(" + strings.Join(row, ", ") + ")"
	}
	signs := []string{"index", "key", "val", "", "", " * ", " + ", " - ", " == ", " < ", " && ", " || "}
	return strings.Join(bound, signs[e.Kind-impl.ExIndex]) + map[bool]string{true: signs[e.Kind-impl.ExIndex]}[len(bound) == 0]
}

// oneOfEach is an expression of each kind, by its kind, with its text.
var oneOfEach = []struct {
	e    impl.Expr
	text string
}{
	{eNull, "null"},
	{eTrue, "true"},
	{eInt(7), "7"},
	{eText(`a"\ ~`), `"a\"\\ ~"`},
	{eOf(impl.ExList, eNull, eInt(1)), "[null, 1]"},
	{eMap("a b", eNull, eInt(1)), "{a = null, b = 1}"},
	{eLocal("n"), "$n"},
	{eRes("web"), "web"},
	{eSays(impl.ExGet, "id", eRes("web")), "web.id"},
	{eOf(impl.ExItem, eRes("web"), eInt(0)), "web[0]"},
	{eIndex, "index"},
	{eKey, "key"},
	{eVal, "val"},
	{eOf(impl.ExNot, eTrue), "!true"},
	{eOf(impl.ExNeg, eInt(3)), "-3"},
	{eOf(impl.ExMul, eInt(1), eInt(2)), "1 * 2"},
	{eOf(impl.ExAdd, eInt(1), eInt(2)), "1 + 2"},
	{eOf(impl.ExSub, eInt(1), eInt(2)), "1 - 2"},
	{eOf(impl.ExEq, eInt(1), eInt(2)), "1 == 2"},
	{eOf(impl.ExLess, eInt(1), eInt(2)), "1 < 2"},
	{eOf(impl.ExAnd, eTrue, eFalse), "true && false"},
	{eOf(impl.ExOr, eTrue, eFalse), "true || false"},
	{eOf(impl.ExIf, eTrue, eInt(1), eInt(2)), "true ? 1 : 2"},
	{eSays(impl.ExCall, "cat", eText("a"), eText("b")), `cat("a", "b")`},
}

// moreExprs are others that may be, with their texts.
var moreExprs = []struct {
	e    impl.Expr
	text string
}{
	{eFalse, "false"},
	{eInt(0), "0"},
	{eInt(10), "10"},
	{eInt(impl.MaxInt), "1000000000000"},
	{eText(""), `""`},
	{eText("01234567890123456789"), `"01234567890123456789"`},
	{eText("+"), `"+"`},
	{eText("null"), `"null"`},
	{eOf(impl.ExList), "[]"},
	{eMap(""), "{}"},
	{eMap("a aa b", eNull, eNull, eNull), "{a = null, aa = null, b = null}"},
	{eMap("null res", eRes("a"), eKey), "{null = a, res = key}"},
	{eOf(impl.ExList, eOf(impl.ExList), eMap("", []impl.Expr{}...), eOf(impl.ExList, eNull)), "[[], {}, [null]]"},
	{eLocal("abcdefgh"), "$abcdefgh"},
	{eLocal("res"), "$res"},
	{eSays(impl.ExGet, "null", eRes("a")), "a.null"},
	{eSays(impl.ExCall, "f"), "f()"},
	{eSays(impl.ExCall, "f", eNull), "f(null)"},
	{eSays(impl.ExCall, "f", eOf(impl.ExAdd, eInt(1), eInt(2)), eOf(impl.ExIf, eNull, eNull, eNull)), "f(1 + 2, null ? null : null)"},
	{eOf(impl.ExList, eOf(impl.ExOr, eTrue, eTrue), eOf(impl.ExNot, eTrue)), "[true || true, !true]"},
	{eMap("a", eOf(impl.ExLess, eInt(1), eInt(2))), "{a = 1 < 2}"},
	{eOf(impl.ExItem, eRes("a"), eOf(impl.ExIf, eIndex, eInt(1), eInt(2))), "a[index ? 1 : 2]"},
	{eOf(impl.ExItem, eOf(impl.ExNeg, eLocal("a")), eOf(impl.ExNeg, eInt(0))), "(-$a)[-0]"},
	{eOf(impl.ExItem, eOf(impl.ExItem, eRes("a"), eInt(1)), eInt(2)), "a[1][2]"},
	{eOf(impl.ExItem, eRes("a"), eOf(impl.ExItem, eRes("b"), eInt(2))), "a[b[2]]"},
	{eSays(impl.ExGet, "b", eOf(impl.ExItem, eRes("a"), eText("k"))), `a["k"].b`},
	{eSays(impl.ExGet, "c", eSays(impl.ExGet, "b", eRes("a"))), "a.b.c"},
	{eSays(impl.ExGet, "a", eInt(1)), "1.a"},
	{eSays(impl.ExGet, "a", eText("t")), `"t".a`},
	{eSays(impl.ExGet, "a", eOf(impl.ExNot, eVal)), "(!val).a"},
	{eSays(impl.ExGet, "a", eSays(impl.ExCall, "f")), "f().a"},
	{eOf(impl.ExItem, eOf(impl.ExList, eInt(1)), eInt(0)), "[1][0]"},
	{eOf(impl.ExNot, eOf(impl.ExNot, eTrue)), "!!true"},
	{eOf(impl.ExNeg, eOf(impl.ExNeg, eInt(1))), "--1"},
	{eOf(impl.ExNot, eOf(impl.ExNeg, eOf(impl.ExNot, eVal))), "!-!val"},
	{eOf(impl.ExNeg, eOf(impl.ExSub, eInt(1), eInt(2))), "-(1 - 2)"},
	{eOf(impl.ExNot, eSays(impl.ExGet, "a", eVal)), "!val.a"},
	{eOf(impl.ExSub, eOf(impl.ExNeg, eInt(1)), eOf(impl.ExNeg, eInt(2))), "-1 - -2"},
	{eOf(impl.ExAdd, eOf(impl.ExAdd, eInt(1), eInt(2)), eInt(3)), "(1 + 2) + 3"},
	{eOf(impl.ExAdd, eInt(1), eOf(impl.ExAdd, eInt(2), eInt(3))), "1 + (2 + 3)"},
	{eOf(impl.ExMul, eInt(1), eOf(impl.ExAdd, eInt(2), eInt(3))), "1 * (2 + 3)"},
	{eOf(impl.ExAdd, eInt(1), eOf(impl.ExMul, eInt(2), eInt(3))), "1 + (2 * 3)"},
	{eOf(impl.ExIf, eOf(impl.ExIf, eTrue, eInt(1), eInt(2)), eKey, eVal), "(true ? 1 : 2) ? key : val"},
	{eOf(impl.ExIf, eTrue, eOf(impl.ExIf, eTrue, eInt(1), eInt(2)), eOf(impl.ExIf, eFalse, eInt(3), eInt(4))), "true ? (true ? 1 : 2) : (false ? 3 : 4)"},
	{eOf(impl.ExIf, eOf(impl.ExNot, eTrue), eOf(impl.ExNeg, eInt(1)), eOf(impl.ExList)), "!true ? -1 : []"},
	{eOf(impl.ExAnd, eOf(impl.ExNot, eOf(impl.ExEq, eSays(impl.ExGet, "id", eRes("web")), eInt(3))), eTrue), "!(web.id == 3) && true"},
}

// goodExprs are those of both tables, and the greatest and the deepest ones.
func goodExprs() []impl.Expr {
	var out []impl.Expr
	for _, c := range oneOfEach {
		out = append(out, c.e)
	}
	for _, c := range moreExprs {
		out = append(out, c.e)
	}
	out = append(out, wideExpr(150), eOf(impl.ExList, wideExpr(75), wideExpr(74)), wideExprMap(150), eSays(impl.ExCall, "f", wideExpr(150).Kids...))
	for _, around := range waysDown {
		out = append(out, deepExpr(10, around))
	}
	return out
}

// wideExprMap is a map of so many parts in all.
func wideExprMap(parts int) impl.Expr {
	return eMap(manyKeys(parts-1), wideExpr(parts).Kids...)
}

// badExprs: expressions that may not be, each for one reason.
func badExprs() map[string]impl.Expr {
	out := map[string]impl.Expr{
		"kind below":                       {Kind: -1},
		"kind far below":                   {Kind: math.MinInt},
		"kind above":                       {Kind: 24},
		"kind far above":                   {Kind: math.MaxInt},
		"bool 2":                           {Kind: impl.ExBool, N: 2},
		"bool -1":                          {Kind: impl.ExBool, N: -1},
		"int above MaxInt":                 eInt(impl.MaxInt + 1),
		"greatest int":                     eInt(math.MaxInt),
		"int below 0":                      eInt(-1),
		"least int":                        eInt(math.MinInt),
		"text of 21":                       eText("012345678901234567890"),
		"text with byte 31":                eText("a\x1f"),
		"text with byte 127":               eText("\x7f"),
		"text with byte 10":                eText("a\nb"),
		"text with byte 200":               eText("\xc8"),
		"keys descend":                     eMap("b a", eNull, eNull),
		"key twice":                        eMap("a a", eNull, eNull),
		"keys descend at the end":          eMap("a c b", eNull, eNull, eNull),
		"more keys than kids":              eMap("a b", eNull),
		"a key without kids":               eMap("a"),
		"more kids than keys":              eMap("a", eNull, eNull),
		"kids without keys":                eMap("", eNull),
		"a key that is no name":            eMap("a B", eNull, eNull),
		"a key that is too long":           eMap("abcdefghi", eNull),
		"a key that is empty":              {Kind: impl.ExMap, K: [][]byte{nil}, Kids: []impl.Expr{eNull}},
		"a list with an empty key":         {Kind: impl.ExList, K: [][]byte{nil}, Kids: []impl.Expr{eNull}},
		"151 parts":                        wideExpr(151),
		"151 parts of a map":               wideExprMap(151),
		"151 parts of a call":              eSays(impl.ExCall, "f", wideExpr(151).Kids...),
		"151 parts in two":                 eOf(impl.ExList, wideExpr(75), wideExpr(75)),
		"151 parts in an operation":        eOf(impl.ExAdd, wideExpr(75), wideExpr(75)),
		"far too many parts":               wideExpr(100000),
		"far too deep":                     deepExpr(100000, waysDown["list"]),
		"a later one too deep":             eOf(impl.ExList, eNull, deepExpr(10, waysDown["list"])),
		"an earlier one too deep":          eOf(impl.ExList, deepExpr(10, waysDown["list"]), eNull),
		"empty name of a local":            eLocal(""),
		"empty name of a resource":         eRes(""),
		"empty name of a call":             eSays(impl.ExCall, ""),
		"empty name behind the dot":        eSays(impl.ExGet, "", eNull),
		"a call that has a null too many":  eOf(impl.ExCall, eNull),
		"a get that has a name, but no of": eSays(impl.ExGet, "a"),
	}
	for name, around := range waysDown {
		out["too deep: "+name] = deepExpr(11, around)
	}
	for _, name := range keptNames {
		out["kept resource "+name] = eRes(name)
		out["kept call "+name] = eSays(impl.ExCall, name, eNull)
	}
	for _, name := range notNames {
		out["local called "+name] = eLocal(name)
		out["resource called "+name] = eRes(name)
		out["call of "+name] = eSays(impl.ExCall, name)
		out["get of "+name] = eSays(impl.ExGet, name, eNull)
		out["key "+name] = impl.Expr{Kind: impl.ExMap, K: [][]byte{[]byte(name)}, Kids: []impl.Expr{eNull}}
	}
	return out
}

// endlessExprs have no end.
func endlessExprs() map[string]impl.Expr {
	list := eOf(impl.ExList, eNull, eNull)
	list.Kids[1] = list
	not := eOf(impl.ExNot, eNull)
	not.Kids[0] = not
	two := eOf(impl.ExAdd, eNull, eNull)
	two.Kids[0], two.Kids[1] = two, two
	broad := wideExprMap(140)
	for i := range broad.Kids {
		broad.Kids[i] = broad
	}
	huge := wideExpr(30000)
	for i := range huge.Kids {
		huge.Kids[i] = huge
	}
	return map[string]impl.Expr{"in itself": list, "not itself": not, "twice in itself": two, "often in itself": broad, "very often in itself": huge}
}

// eachBadExpr calls with those that may not be, alone and as kids at each place.
func eachBadExpr(call func(why string, e impl.Expr)) {
	all := endlessExprs()
	for why, e := range badExprs() {
		all[why] = e
	}
	for why, e := range all {
		call(why, e)
		for place, around := range waysDown {
			call(why+", in "+place, around(e))
			call(why+", deep in "+place, around(around(around(e))))
		}
	}
}

func TestLanguageLimits(t *testing.T) {
	for name, c := range map[string][2]int{
		"MaxSource": {impl.MaxSource, 1200}, "MaxNodes": {impl.MaxNodes, 150}, "MaxNest": {impl.MaxNest, 10}, "MaxItems": {impl.MaxItems, 12}, "MaxAttrs": {impl.MaxAttrs, 6},
		"ExNull": {impl.ExNull, 0}, "ExMap": {impl.ExMap, 5}, "ExIndex": {impl.ExIndex, 10}, "ExMul": {impl.ExMul, 15}, "ExOr": {impl.ExOr, 21}, "ExIf": {impl.ExIf, 22}, "ExCall": {impl.ExCall, 23},
		"RdWell": {impl.RdWell, 0}, "RdLong": {impl.RdLong, 1}, "RdByte": {impl.RdByte, 2}, "RdForm": {impl.RdForm, 3}, "RdBig": {impl.RdBig, 4},
		"ItLocal": {impl.ItLocal, 0}, "ItRes": {impl.ItRes, 1}, "ItOut": {impl.ItOut, 2}, "MnOne": {impl.MnOne, 0}, "MnCount": {impl.MnCount, 1}, "MnEach": {impl.MnEach, 2},
	} {
		if c[0] != c[1] {
			t.Error(name, c)
		}
	}
}

func TestExprsThatMayBe(t *testing.T) {
	for i, e := range goodExprs() {
		if !impl.ExprOk(e) || !wholeByRule(e) {
			t.Error(i, e)
		}
	}
	for _, name := range keptNames {
		if !impl.ExprOk(eLocal(name)) || !impl.ExprOk(eSays(impl.ExGet, name, eNull)) || !impl.ExprOk(eMap(name, eNull)) {
			t.Error(name, "is kept from words alone")
		}
	}
	for kind, c := range oneOfEach {
		if c.e.Kind != kind {
			t.Error(kind)
		}
	}
}

func TestExprsThatMayNotBe(t *testing.T) {
	eachBadExpr(func(why string, e impl.Expr) {
		if impl.ExprOk(e) {
			t.Error(why)
		}
		if text := impl.ExprText(e); len(text) != 0 {
			t.Error(why, string(text))
		}
		if len(impl.Uses(e)) != 0 || len(impl.Locals(e)) != 0 {
			t.Error(why, "names are told")
		}
	})
}

// TestEachFieldOfExprs gives each kind each field that another one may have, and takes its own away.
func TestEachFieldOfExprs(t *testing.T) {
	names := [][]byte{nil, []byte("a"), []byte("null"), []byte("A b")}
	for kind, c := range oneOfEach {
		var tries []impl.Expr
		for _, n := range []int{-1, 0, 1, 2} {
			for _, says := range append(names, c.e.S) {
				for _, keys := range [][][]byte{nil, keysOf("a"), keysOf("a b"), keysOf("b a"), keysOf("a b c")} {
					for kids := range 5 {
						tries = append(tries, impl.Expr{Kind: kind, N: n, S: says, K: keys, Kids: make([]impl.Expr, kids)})
					}
				}
			}
		}
		may := 0
		for _, e := range tries {
			if impl.ExprOk(e) != wholeByRule(e) {
				t.Error(e)
			}
			if impl.ExprOk(e) {
				may++
			}
		}
		if may == 0 || may == len(tries) {
			t.Error(kind, "the tries tell nothing")
		}
	}
}

// TestKidsOfEachKind: how many each kind takes.
func TestKidsOfEachKind(t *testing.T) {
	wants := []int{0, 0, 0, 0, -1, -1, 0, 0, 1, 2, 0, 0, 0, 1, 1, 2, 2, 2, 2, 2, 2, 2, 3, -1}
	for kind, want := range wants {
		for n := range 6 {
			e := oneOfEach[kind].e
			e.Kids = make([]impl.Expr, n)
			if kind == impl.ExMap {
				e.K = keysOf(manyKeys(n))
			}
			if impl.ExprOk(e) != (want < 0 || want == n) {
				t.Error(kind, n)
			}
		}
	}
}

func TestExprTexts(t *testing.T) {
	for _, c := range slices.Concat(oneOfEach, moreExprs) {
		if text := string(impl.ExprText(c.e)); text != c.text || exprTextByRule(c.e) != c.text {
			t.Errorf("%s, wanted %s", text, c.text)
		}
	}
	for _, e := range goodExprs() {
		if text := string(impl.ExprText(e)); text != exprTextByRule(e) {
			t.Error(text)
		}
	}
}

// TestBrackets: a kid of each kind at each place of each kind.
func TestBrackets(t *testing.T) {
	operations, signs := []int{15, 16, 17, 18, 19, 20, 21, 22}, []int{13, 14}
	tight := append(slices.Clone(operations), signs...)
	// By kind, and by place: the kids that stand in brackets there.
	wants := map[int][][]int{4: {nil, nil}, 5: {nil, nil}, 8: {tight}, 9: {tight, nil}, 13: {operations}, 14: {operations}, 22: {operations, operations, operations}, 23: {nil, nil}}
	for kind := 15; kind <= 21; kind++ {
		wants[kind] = [][]int{operations, operations}
	}
	for kind, c := range oneOfEach {
		if len(wants[kind]) != len(c.e.Kids) {
			t.Fatal(kind)
		}
		for place, inBrackets := range wants[kind] {
			for kid, k := range oneOfEach {
				e := c.e
				e.Kids = slices.Repeat([]impl.Expr{eIndex}, len(c.e.Kids))
				around := string(impl.ExprText(e))
				at := nthIndex(around, "index", place)
				text := k.text
				if slices.Contains(inBrackets, kid) {
					text = "(" + text + ")"
				}
				e.Kids[place] = k.e
				if got, want := string(impl.ExprText(e)), around[:at]+text+around[at+5:]; got != want {
					t.Errorf("%s, wanted %s", got, want)
				}
			}
		}
	}
}

// nthIndex tells where in s the piece stands that n others like it are ahead of.
func nthIndex(s string, piece string, n int) int {
	at := strings.Index(s, piece)
	for range n {
		at += len(piece)
		at += strings.Index(s[at:], piece)
	}
	return at
}

func TestUsesAndLocals(t *testing.T) {
	web := func(name string) impl.Expr { return eSays(impl.ExGet, "id", eRes(name)) }
	deep := deepExpr(9, waysDown["late item"])
	for _, c := range []struct {
		why    string
		e      impl.Expr
		uses   string
		locals string
	}{
		{"none", eNull, "", ""},
		{"no name at all", eOf(impl.ExAdd, eIndex, eMap("a b", eKey, eVal)), "", ""},
		{"a resource", eRes("web"), "web", ""},
		{"a local", eLocal("n"), "", "n"},
		{"both of one name", eOf(impl.ExList, eLocal("a"), eRes("a")), "a", "a"},
		{"a call is none", eSays(impl.ExCall, "len", eSays(impl.ExGet, "n", eVal)), "", ""},
		{"a key is none", eMap("a b", eText("c"), eRes("d")), "d", ""},
		{"a local with a kept name", eLocal("res"), "", "res"},
		{"several, ascending", eOf(impl.ExList, eRes("c"), eRes("a"), eLocal("z"), eRes("b"), eLocal("ab"), eLocal("a")), "a b c", "a ab z"},
		{"one several times", eOf(impl.ExOr, eOf(impl.ExAnd, web("b"), web("a")), eOf(impl.ExAnd, web("b"), web("b"))), "a b", ""},
		{"a local several times", eOf(impl.ExIf, eLocal("x"), eLocal("x"), eOf(impl.ExNeg, eLocal("x"))), "", "x"},
		{"far inside", eSays(impl.ExGet, "a", deep), "", ""},
		{"each kid of each kind", eOf(impl.ExItem, eOf(impl.ExNot, eSays(impl.ExCall, "f", eRes("g"), eMap("k", eLocal("l")))), eOf(impl.ExIf, eRes("i"), eOf(impl.ExEq, eRes("h"), eLocal("j")), eOf(impl.ExNeg, eOf(impl.ExList, eNull, eLocal("m"))))), "g h i", "j l m"},
	} {
		if got := texts(impl.Uses(c.e)); got != texts(keysOf(c.uses)) {
			t.Error(c.why, got)
		}
		if got := texts(impl.Locals(c.e)); got != texts(keysOf(c.locals)) {
			t.Error(c.why, got)
		}
	}
	for place, around := range waysDown {
		e := eOf(impl.ExList, eRes("a"), eLocal("b"))
		for range 8 {
			e = around(e)
		}
		if texts(impl.Uses(e)) != texts(keysOf("a")) || texts(impl.Locals(e)) != texts(keysOf("b")) {
			t.Error(place, e)
		}
	}
}

// expr draws one that keeps all rules but, perhaps, the limits.
func (d *draw) expr(depth int) impl.Expr {
	kind := d.upTo(24)
	if depth <= 1 {
		kind = []int{0, 1, 2, 3, 4, 5, 6, 7, 10, 11, 12, 23}[d.upTo(12)]
	}
	e := impl.Expr{Kind: kind}
	kids := len(oneOfEach[kind].e.Kids)
	switch kind {
	case impl.ExBool:
		e.N = d.upTo(2)
	case impl.ExInt:
		e.N = []int{0, 1, 10, 999, impl.MaxInt}[d.upTo(5)]
	case impl.ExText:
		e.S = []byte([]string{"", "a", `"`, `\`, `\\"`, "a + b", "01234567890123456789", "~"}[d.upTo(8)])
	case impl.ExLocal, impl.ExGet:
		e.S = []byte([]string{"a", "b", "res", "abcdefgh", "null"}[d.upTo(5)])
	case impl.ExRes, impl.ExCall:
		e.S = []byte([]string{"a", "b", "web", "abcdefgh", "nul"}[d.upTo(5)])
	}
	if kind == impl.ExList || kind == impl.ExMap || kind == impl.ExCall {
		kids = d.upTo(4) * min(depth-1, 1)
	}
	if kind == impl.ExMap {
		e.K = d.someOf(4, "a", "b", "key", "zz")
		kids = len(e.K) * min(depth-1, 1)
		e.K = e.K[:kids]
	}
	for range kids {
		e.Kids = append(e.Kids, d.expr(depth-1))
	}
	return e
}

// drawnExprs are so many that may be.
func drawnExprs(n int) []impl.Expr {
	d := draw(n + 77)
	var out []impl.Expr
	for len(out) < n {
		if e := d.expr(1 + d.upTo(6)); exprParts(e) <= 150 {
			out = append(out, e)
		}
	}
	return out
}

// meddledExpr is e with one thing changed, somewhere.
func (d *draw) meddledExpr(e impl.Expr) impl.Expr {
	if len(e.Kids) > 0 && d.upTo(2) == 0 {
		e.Kids = slices.Clone(e.Kids)
		i := d.upTo(len(e.Kids))
		e.Kids[i] = d.meddledExpr(e.Kids[i])
		return e
	}
	switch d.upTo(5) {
	case 0:
		e.Kind = d.upTo(26) - 1
	case 1:
		e.N = []int{-1, 0, 1, 2}[d.upTo(4)]
	case 2:
		e.S = []byte([]string{"", "a", "key", "A"}[d.upTo(4)])
	case 3:
		e.K = d.someOf(3, "a", "b", "c")
	case 4:
		e.Kids = append(slices.Clone(e.Kids), eNull)[d.upTo(2):]
	}
	return e
}

func TestExprsByRule(t *testing.T) {
	d, may := draw(5), 0
	exprs := drawnExprs(3000)
	for _, e := range exprs {
		for _, x := range []impl.Expr{e, d.meddledExpr(e)} {
			want := ""
			if wholeByRule(x) {
				want = exprTextByRule(x)
				may++
			}
			if impl.ExprOk(x) != (want != "") || string(impl.ExprText(x)) != want {
				t.Fatal(x, string(impl.ExprText(x)), want)
			}
		}
	}
	if may < 3200 || may > 5800 {
		t.Error(may, "the draws tell nothing")
	}
}
