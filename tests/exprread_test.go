package tests

import (
	"slices"
	"strings"
	"testing"

	"loop.example/g00407/impl"
)

// readsAs fails where s is not read as this one, with RdWell and 0.
func readsAs(t *testing.T, s string, want impl.Expr) {
	t.Helper()
	e, code, at := impl.ExprRead([]byte(s))
	if code != impl.RdWell || at != 0 || !alike(e, want) {
		t.Errorf("%q: %s, %d at %d, wanted %s", s, exprTextOr(e), code, at, exprTextOr(want))
	}
}

// refusesExpr fails where s is not refused with this code at this place, beside the zero value.
func refusesExpr(t *testing.T, s string, code int, at int) {
	t.Helper()
	e, c, place := impl.ExprRead([]byte(s))
	if c != code || place != at || !alike(e, impl.Expr{}) {
		t.Errorf("%q: %d at %d, wanted %d at %d", s, c, place, code, at)
	}
}

func exprTextOr(e impl.Expr) string {
	if !wholeByRule(e) {
		return "what may not be"
	}
	return exprTextByRule(e)
}

func TestExprsComeBackFromTheirTexts(t *testing.T) {
	for _, c := range slices.Concat(oneOfEach, moreExprs) {
		readsAs(t, c.text, c.e)
	}
	long := 0
	for _, e := range slices.Concat(goodExprs(), drawnExprs(3000)) {
		text := impl.ExprText(e)
		if len(text) > impl.MaxSource {
			refusesExpr(t, string(text), impl.RdLong, 0)
			long++
			continue
		}
		readsAs(t, string(text), e)
	}
	if long > 100 {
		t.Error(long, "the draws tell nothing")
	}
}

func TestGrammar(t *testing.T) {
	one, two, three := eInt(1), eInt(2), eInt(3)
	a, b, c := eRes("a"), eRes("b"), eRes("c")
	of := eOf
	for s, want := range map[string]impl.Expr{
		"((1))":               one,
		"(((((a)))))":         a,
		"(1).a":               eSays(impl.ExGet, "a", one),
		"(1 + 2) * 3":         of(15, of(16, one, two), three),
		"1 * (2)":             of(15, one, two),
		"1 + 2 + 3":           of(16, of(16, one, two), three),
		"1 - 2 - 3":           of(17, of(17, one, two), three),
		"1 - 2 + 3":           of(16, of(17, one, two), three),
		"1 - (2 - 3)":         of(17, one, of(17, two, three)),
		"1 * 2 * 3":           of(15, of(15, one, two), three),
		"1 + 2 * 3":           of(16, one, of(15, two, three)),
		"1 * 2 + 3":           of(16, of(15, one, two), three),
		"1 < 2 == 3":          of(18, of(19, one, two), three),
		"1 == 2 < 3":          of(19, of(18, one, two), three),
		"1 == 2 == 3":         of(18, of(18, one, two), three),
		"1 < 2 + 3":           of(19, one, of(16, two, three)),
		"1 + 2 < 3":           of(19, of(16, one, two), three),
		"a && b && c":         of(20, of(20, a, b), c),
		"a || b || c":         of(21, of(21, a, b), c),
		"a || b && c":         of(21, a, of(20, b, c)),
		"a && b || c":         of(21, of(20, a, b), c),
		"a && b == c":         of(20, a, of(18, b, c)),
		"a == b && c":         of(20, of(18, a, b), c),
		"a ? b : c":           of(22, a, b, c),
		"a ? b : c ? 1 : 2":   of(22, a, b, of(22, c, one, two)),
		"a ? b ? 1 : 2 : c":   of(22, a, of(22, b, one, two), c),
		"(a ? b : c) ? 1 : 2": of(22, of(22, a, b, c), one, two),
		"a || b ? 1 : 2":      of(22, of(21, a, b), one, two),
		"a ? 1 : b || c":      of(22, a, one, of(21, b, c)),
		"a ? 1 || 2 : 3":      of(22, a, of(21, one, two), three),
		"!a && b":             of(20, of(13, a), b),
		"!a == b":             of(18, of(13, a), b),
		"-1 * 2":              of(15, of(14, one), two),
		"1 * -2":              of(15, one, of(14, two)),
		"1--2":                of(17, one, of(14, two)),
		"1---2":               of(17, one, of(14, of(14, two))),
		"- -1":                of(14, of(14, one)),
		"!-!1":                of(13, of(14, of(13, one))),
		"-a.b":                of(14, eSays(impl.ExGet, "b", a)),
		"!a[1]":               of(13, of(9, a, one)),
		"(-a).b":              eSays(impl.ExGet, "b", of(14, a)),
		"a.b.c":               eSays(impl.ExGet, "c", eSays(impl.ExGet, "b", a)),
		"a[1][2]":             of(9, of(9, a, one), two),
		"a[1 + 2]":            of(9, a, of(16, one, two)),
		"a[b ? 1 : 2].c":      eSays(impl.ExGet, "c", of(9, a, of(22, b, one, two))),
		"[1][2]":              of(9, of(4, one), two),
		"{}.a":                eSays(impl.ExGet, "a", eMap("")),
		`"a".b`:               eSays(impl.ExGet, "b", eText("a")),
		"null.a":              eSays(impl.ExGet, "a", eNull),
		"$a.b":                eSays(impl.ExGet, "b", eLocal("a")),
		"$a[0]":               of(9, eLocal("a"), eInt(0)),
		"$null":               eLocal("null"),
		"$ a":                 eLocal("a"),
		"a . each":            eSays(impl.ExGet, "each", a),
		"a()":                 eSays(23, "a"),
		"a ( )":               eSays(23, "a"),
		"a(1)":                eSays(23, "a", one),
		"a(1, 2 + 3, b)":      eSays(23, "a", one, of(16, two, three), b),
		"a(b(c()))":           eSays(23, "a", eSays(23, "b", eSays(23, "c"))),
		"a()[1].b":            eSays(impl.ExGet, "b", of(9, eSays(23, "a"), one)),
		"[]":                  of(4),
		"[1]":                 of(4, one),
		"[1, [2], 3]":         of(4, one, of(4, two), three),
		"[a ? 1 : 2, b]":      of(4, of(22, a, one, two), b),
		"{}":                  eMap(""),
		"{a = 1}":             eMap("a", one),
		"{a = 1, b = {c = 2}}": eMap("a b", one,
			eMap("c", two)),
		"{a = 1 == 2}":               eMap("a", of(18, one, two)),
		"{a=1,aa=2,b=3}":             eMap("a aa b", one, two, three),
		"{each = 1, key = 2}":        eMap("each key", one, two),
		"1==2":                       of(18, one, two),
		"1<-2":                       of(19, one, of(14, two)),
		"nulls":                      eRes("nulls"),
		"nul":                        eRes("nul"),
		"counts":                     eRes("counts"),
		"index":                      eIndex,
		"key":                        eKey,
		"val":                        eVal,
		"[index, key, val, indexes]": of(4, eIndex, eKey, eVal, eRes("indexes")),
		"true":                       eTrue,
		"false":                      eFalse,
	} {
		readsAs(t, s, want)
	}
}

func TestBlanks(t *testing.T) {
	sum := eOf(impl.ExAdd, eInt(1), eMap("a", eSays(impl.ExGet, "b", eLocal("c"))))
	for _, s := range []string{"1+{a=$c.b}", " 1+{a=$c.b}", "1+{a=$c.b} ", "\n\n1 +\n{a = $c.b}\n", "  1  +  {  a  =  $  c  .  b  }  ", "\n1\n+\n{\na\n=\n$\nc\n.\nb\n}\n", " \n \n1 + {a = $c . b}"} {
		readsAs(t, s, sum)
	}
	readsAs(t, `"a  b"`, eText("a  b"))
	readsAs(t, ` " a" `, eText(" a"))
	// A blank parts what would be one else.
	refusesExpr(t, "1 = = 2", impl.RdForm, 2)
	refusesExpr(t, "a & & b", impl.RdByte, 2)
	refusesExpr(t, "a | | b", impl.RdByte, 2)
	refusesExpr(t, "1 0", impl.RdForm, 2)
	refusesExpr(t, "ab cd", impl.RdForm, 3)
	// Nothing else does.
	for _, c := range []string{"\t", "\r", "\v", "\f", "\x00", "\xa0", "\x85", "\xc2\xa0"} {
		refusesExpr(t, c+"1", impl.RdByte, 0)
		refusesExpr(t, "1 "+c, impl.RdByte, 2)
		refusesExpr(t, "1 +"+c+"2", impl.RdByte, 3)
	}
}

func TestNothingToRead(t *testing.T) {
	refusesExpr(t, "", impl.RdForm, 0)
	refusesExpr(t, " ", impl.RdForm, 1)
	refusesExpr(t, "\n", impl.RdForm, 1)
	refusesExpr(t, " \n  ", impl.RdForm, 4)
	if _, code, at := impl.ExprRead(nil); code != impl.RdForm || at != 0 {
		t.Error(code, at)
	}
}

func TestLongSources(t *testing.T) {
	blanks := strings.Repeat(" ", 1199)
	readsAs(t, "1"+blanks, eInt(1))
	readsAs(t, blanks+"1", eInt(1))
	refusesExpr(t, "1"+blanks+" ", impl.RdLong, 0)
	refusesExpr(t, blanks+" 1", impl.RdLong, 0)
	refusesExpr(t, strings.Repeat(" ", 1200), impl.RdForm, 1200)
	refusesExpr(t, strings.Repeat(" ", 1201), impl.RdLong, 0)
	refusesExpr(t, strings.Repeat("~", 1200), impl.RdByte, 0)
	refusesExpr(t, strings.Repeat("~", 1201), impl.RdLong, 0)
	refusesExpr(t, blanks+")", impl.RdForm, 1199)
	refusesExpr(t, blanks+"~", impl.RdByte, 1199)
	refusesExpr(t, strings.Repeat("!", 100000), impl.RdLong, 0)
	// Brackets leave no trace, however many there are.
	readsAs(t, strings.Repeat("(", 599)+"ab"+strings.Repeat(")", 599), eRes("ab"))
	refusesExpr(t, strings.Repeat("(", 1200), impl.RdForm, 1200)
	refusesExpr(t, strings.Repeat("(", 600)+strings.Repeat(")", 600), impl.RdForm, 600)
	refusesExpr(t, strings.Repeat(")", 1200), impl.RdForm, 0)
	refusesExpr(t, strings.Repeat("[", 1200), impl.RdForm, 1200)
	refusesExpr(t, strings.Repeat("!", 1200), impl.RdForm, 1200)
	refusesExpr(t, strings.Repeat("-", 1199)+"1", impl.RdBig, 10)
	refusesExpr(t, "1"+strings.Repeat("-", 1199), impl.RdForm, 1200)
	refusesExpr(t, "1"+strings.Repeat("?1:1", 299), impl.RdBig, 38)
	refusesExpr(t, strings.Repeat("[", 600)+strings.Repeat("]", 600), impl.RdBig, 10)
	refusesExpr(t, strings.Repeat("a(", 400)+strings.Repeat(")", 400), impl.RdBig, 20)
	refusesExpr(t, "a"+strings.Repeat(".b", 599), impl.RdBig, 1199)
}

// TestWhereNoTokenIs: RdByte at the place at which none can be.
func TestWhereNoTokenIs(t *testing.T) {
	for _, piece := range []string{
		"~", "#", "%", "&", "|", "'", "/", ">", ";", "@", "A", "Z", `\`, "^", "_", "`", "\x00", "\x1f", "\x7f", "\x80", "\xff", "é",
		`"`, `"a`, `"a\`, `"a\"`, `"\a"`, `"a\\\"`, `"a\ "`, "\"a\nb\"", "\"\x1f\"", "\"\x7f\"", "\"\x80\"", "\"é\"", `"012345678901234567890"`, `"0123456789012345678\\\\"`,
		"abcdefghi", "nullnulls", strings.Repeat("a", 500),
		"00", "01", "007", "0000", "1000000000001", "2000000000000", "10000000000000", "9223372036854775808", "18446744073709551617", strings.Repeat("9", 400),
	} {
		refusesExpr(t, piece, impl.RdByte, 0)
		for _, ahead := range []string{" ", "\n \n", "1 + ", "1+", "{a = 1}[", `"x"`, "(((", "] ] "} {
			refusesExpr(t, ahead+piece, impl.RdByte, len(ahead))
			refusesExpr(t, ahead+piece+" ~", impl.RdByte, len(ahead))
		}
		// Neither letters nor digits end such a piece as one that could be.
		if !strings.ContainsAny(piece, `"`) {
			refusesExpr(t, piece+"\n + 1", impl.RdByte, 0)
		}
	}
	refusesExpr(t, "a && b &", impl.RdByte, 7)
	refusesExpr(t, "a &&& b", impl.RdByte, 4)
	refusesExpr(t, "a ||| b", impl.RdByte, 4)
	refusesExpr(t, "a |& b", impl.RdByte, 2)
	refusesExpr(t, "1 => 2", impl.RdByte, 3)
	refusesExpr(t, "-01", impl.RdByte, 1)
	refusesExpr(t, "a[00]", impl.RdByte, 2)
	refusesExpr(t, `"a" + "b`, impl.RdByte, 6)
	refusesExpr(t, `"a""`, impl.RdByte, 3)
	refusesExpr(t, "aB", impl.RdByte, 1)
}

// TestEachByteAlone: what a source of one byte is.
func TestEachByteAlone(t *testing.T) {
	for c := range 256 {
		s := string([]byte{byte(c)})
		switch {
		case strings.Contains("abcdefghijklmnopqrstuvwxyz", s):
			readsAs(t, s, eRes(s))
		case strings.Contains("0123456789", s):
			readsAs(t, s, eInt(c-'0'))
		case strings.Contains("$([{!- \n", s):
			refusesExpr(t, s, impl.RdForm, 1)
		case strings.Contains("})]=<+*?:,.", s):
			refusesExpr(t, s, impl.RdForm, 0)
		default:
			refusesExpr(t, s, impl.RdByte, 0)
		}
	}
}

// TestEdgesOfTokens: the last that can be, ahead of the first that can't.
func TestEdgesOfTokens(t *testing.T) {
	readsAs(t, "0", eInt(0))
	readsAs(t, "1000000000000", eInt(impl.MaxInt))
	readsAs(t, "999999999999", eInt(999999999999))
	readsAs(t, "abcdefgh", eRes("abcdefgh"))
	readsAs(t, `"01234567890123456789"`, eText("01234567890123456789"))
	readsAs(t, `"`+strings.Repeat(`\"`, 20)+`"`, eText(strings.Repeat(`"`, 20)))
	readsAs(t, `"`+strings.Repeat(`\\`, 20)+`"`, eText(strings.Repeat(`\`, 20)))
	refusesExpr(t, `"`+strings.Repeat(`\\`, 21)+`"`, impl.RdByte, 0)
	readsAs(t, `""`, eText(""))
	readsAs(t, `"\\"`, eText(`\`))
	for c := byte(32); c < 127; c++ {
		if c != '"' && c != '\\' {
			readsAs(t, `"`+string([]byte{c})+`"`, eText(string([]byte{c})))
			refusesExpr(t, `"\`+string([]byte{c})+`"`, impl.RdByte, 0)
		}
	}
	// Pieces of different sorts need no blank between.
	refusesExpr(t, "a1", impl.RdForm, 1)
	refusesExpr(t, "1a", impl.RdForm, 1)
	refusesExpr(t, "abcdefgh1", impl.RdForm, 8)
	refusesExpr(t, `"a""b"`, impl.RdForm, 3)
	refusesExpr(t, "1===2", impl.RdForm, 3)
	refusesExpr(t, "1!=2", impl.RdForm, 1)
	refusesExpr(t, "1<=2", impl.RdForm, 2)
	refusesExpr(t, "1.0", impl.RdForm, 2)
}

// TestWhereATokenCannotStand: RdForm at the first one that can't, or at the end.
func TestWhereATokenCannotStand(t *testing.T) {
	for _, c := range []struct {
		s  string
		at int
	}{
		{"1 +", 3}, {"1 + ", 4}, {"1 + \n", 5}, {"1 + + 2", 4}, {"1 + )", 4}, {"* 1", 0}, {"1 * * 2", 4}, {"1 * + 2", 4},
		{"1 2", 2}, {"1 a", 2}, {"a b", 2}, {`"a" "b"`, 4}, {"1 (2)", 2}, {"1)", 1}, {"(1))", 3}, {"1 ]", 2}, {"1 }", 2}, {"1 = 2", 2}, {"a = 1", 2}, {"1 ,", 2}, {"1, 2", 1}, {"1 : 2", 2}, {"1 !", 2}, {"1 ! 2", 2}, {"1 $a", 2}, {"1 {}", 2}, {"1 null", 2},
		{"(", 1}, {"(1", 2}, {"()", 1}, {"(1, 2)", 2}, {"(1]", 2}, {"( 1 2 )", 4},
		{"[", 1}, {"[1", 2}, {"[1,", 3}, {"[1,]", 3}, {"[,]", 1}, {"[1 2]", 3}, {"[1)", 2}, {"[1, , 2]", 4}, {"[1}", 2}, {"[a = 1]", 3},
		{"{", 1}, {"{a", 2}, {"{a =", 4}, {"{a = 1", 6}, {"{a = 1,", 7}, {"{a = 1,}", 7}, {"{,}", 1}, {"{1 = 2}", 1}, {"{a}", 2}, {"{a, b}", 2}, {"{a : 1}", 3}, {"{a == 1}", 3}, {"{\"a\" = 1}", 1}, {"{$a = 1}", 1}, {"{a = }", 5}, {"{a = 1 b = 2}", 7}, {"{a = 1]", 6}, {"{(a) = 1}", 1}, {"{a.b = 1}", 2},
		{"{b = 1, a = 2}", 8}, {"{a = 1, a = 2}", 8}, {"{a = 1, c = 2, b = 3}", 15}, {"{ab = 1, a = 2}", 9}, {"{b = 1, a", 8}, {"{b = 1, a 1", 8}, {"{a = {b = 1, a = 1}}", 13}, {"{b = {a = 1}, a = 1}", 14}, {"[{b = 1, a = 2}", 9}, {"{b = [1, a, {}], a = 2}", 17}, {"f({b = 1,\na = 2})", 10},
		{"$", 1}, {"$1", 1}, {"$$a", 1}, {"$(a)", 1}, {"$ \"a\"", 2}, {"$ ", 2},
		{"a.", 2}, {"a.1", 2}, {"a..b", 2}, {"a.(b)", 2}, {"a.$b", 2}, {"a.\"b\"", 2}, {".a", 0}, {"a.b c", 4},
		{"a[", 2}, {"a[]", 2}, {"a[1", 3}, {"a[1,2]", 3}, {"a[1)", 3}, {"a[1] 2", 5}, {"a[1]]", 4},
		{"a(", 2}, {"a(1", 3}, {"a(1,", 4}, {"a(1,)", 4}, {"a(,)", 2}, {"a(1 2)", 4}, {"a(1]", 3}, {"a(a = 1)", 4}, {"a()()", 3}, {"a.b()", 3}, {"$a()", 2}, {"1()", 1}, {"null()", 4}, {"true(1)", 4}, {"index()", 5}, {"a[0]()", 4}, {"(a)()", 3},
		{"1 ?", 3}, {"1 ? 2", 5}, {"1 ? 2 :", 7}, {"1 ? : 2", 4}, {"1 ? 2 : 3 : 4", 10}, {"? 1 : 2", 0}, {"1 ? 2, 3", 5}, {"(1 ? 2) : 3", 6}, {"1 ? (2 : 3)", 7}, {"[1 ? 2]", 6},
		{"!", 1}, {"-", 1}, {"!)", 1}, {"+1", 0}, {"1 -", 3}, {"!!", 2}, {"- - ", 4}, {"!*1", 1},
		{"==", 0}, {"1 ==", 4}, {"1 == == 2", 5}, {"1 < < 2", 4}, {"&& 1", 0}, {"1 && || 2", 5}, {"1 || ", 5},
		{"local", 0}, {"res", 0}, {"out", 0}, {"count", 0}, {"each", 0}, {"res(1)", 0}, {"1 + each", 4}, {"[local]", 1}, {"{a = out}", 5}, {"f(count)", 2}, {"!res", 1}, {"(each)", 1}, {"a[out]", 2}, {"1 ? res : 2", 4}, {"each.a", 0},
	} {
		refusesExpr(t, c.s, impl.RdForm, c.at)
	}
}

// nests are ways to stand one deeper; at tells where the first token is that does.
var nests = []struct {
	ahead, behind string
	at            int
}{
	{"!", "", 1}, {"-", "", 1}, {"[", "]", 1}, {"[1, ", ", 2]", 1}, {"{a = ", "}", 5}, {"{a = 1, b = ", ", c = 2}", 5},
	{"f(", ")", 2}, {"f(1, ", ")", 2}, {"a[", "]", 2}, {"1 ? ", " : 2", 4}, {"1 ? 2 : ", "", 4},
	{"1 * (", ")", 4}, {"1 + (", ")", 4}, {"1 - (", ")", 4}, {"1 == (", ")", 5}, {"1 < (", ")", 4}, {"1 && (", ")", 5}, {"1 || (", ")", 5}, {"((1 + ((", "))))", 6},
}

// nested is an expression in so many others of a sort.
func nested(ahead string, times int, inner string, behind string) string {
	return strings.Repeat(ahead, times) + inner + strings.Repeat(behind, times)
}

// readsDeep fails where s is not read as something of this depth.
func readsDeep(t *testing.T, s string, depth int) {
	t.Helper()
	if e, code, at := impl.ExprRead([]byte(s)); code != impl.RdWell || at != 0 || exprDepth(e) != depth || !impl.ExprOk(e) {
		t.Errorf("%q: %d at %d, as deep as %d", s, code, at, exprDepth(e))
	}
}

// TestHowDeep: an atom, or a sign, at MaxNest and one deeper, in each way.
func TestHowDeep(t *testing.T) {
	for _, n := range nests {
		nine := 9 * len(n.ahead)
		for _, inner := range []string{"1", `"x"`, "null", "index", "$a", "web", "f()", "[]", "{}", "(1)"} {
			readsDeep(t, nested(n.ahead, 8, inner, n.behind), 9)
			readsDeep(t, nested(n.ahead, 9, inner, n.behind), 10)
			for _, times := range []int{10, 11, 14} {
				refusesExpr(t, nested(n.ahead, times, inner, n.behind), impl.RdBig, nine+n.at)
			}
		}
		for _, sign := range []string{"!", "-"} {
			readsDeep(t, nested(n.ahead, 8, sign+"1", n.behind), 10)
			refusesExpr(t, nested(n.ahead, 9, sign+"1", n.behind), impl.RdBig, nine+1)
			refusesExpr(t, nested(n.ahead, 9, sign+" (1)", n.behind), impl.RdBig, nine+2)
			refusesExpr(t, nested(n.ahead, 10, sign+"1", n.behind), impl.RdBig, nine+n.at)
		}
		// One of each other sort inside.
		for _, m := range nests {
			inner := "(" + m.ahead + "1" + m.behind + ")"
			readsDeep(t, nested(n.ahead, 8, inner, n.behind), 10)
			refusesExpr(t, nested(n.ahead, 9, inner, n.behind), impl.RdBig, nine+1+m.at)
		}
	}
	refusesExpr(t, "!!!!!!!!!!!1", impl.RdBig, 10)
	refusesExpr(t, "!!!!!!!!!!1", impl.RdBig, 10)
	refusesExpr(t, "! ! ! ! ! ! ! ! ! !\n1", impl.RdBig, 20)
	refusesExpr(t, "1 + !!!!!!!!!1", impl.RdBig, 13)
	refusesExpr(t, "[[[[[[[[[[[]]]]]]]]]]]", impl.RdBig, 10)
	// Each rank of operations is one deeper in the second part of the one ahead of it, but not in the first.
	readsDeep(t, "1 || 2 && 3 == 4 + 5 * -[[6]]", 9)
	readsDeep(t, "1 || 2 && 3 == 4 + 5 * -[[[6]]]", 10)
	refusesExpr(t, "1 || 2 && 3 == 4 + 5 * -[[[[6]]]]", impl.RdBig, 28)
	refusesExpr(t, "1 ? 1 || 2 && 3 < 4 - 5 * ![[[6]]] : 2", impl.RdBig, 30)
	readsDeep(t, "!!!!1 * 2 + 3 == 4 && 5 || 6", 10)
	// All parts of one rank behind the first are as deep as the second one.
	readsDeep(t, "1 + 1 + 1 + 1 + 1 + 1 + 1 + 1 + [[[[[[[[1]]]]]]]]", 10)
	refusesExpr(t, "1 + 1 + 1 + 1 + 1 + 1 + 1 + 1 + [[[[[[[[[1]]]]]]]]]", impl.RdBig, 41)
}

// TestReadButTooBig: RdBig at the end, where all is read and is not ExprOk.
func TestReadButTooBig(t *testing.T) {
	for _, op := range []string{"+", "-", "*", "==", "<", "&&", "||", " * "} {
		readsDeep(t, "1"+strings.Repeat(op+"1", 9), 10)
		for _, times := range []int{10, 11, 150} {
			s := "1" + strings.Repeat(op+"1", times)
			refusesExpr(t, s, impl.RdBig, len(s))
			refusesExpr(t, s+" \n", impl.RdBig, len(s)+2)
		}
	}
	for _, tail := range []string{".b", "[0]", " . key"} {
		readsDeep(t, "a"+strings.Repeat(tail, 9), 10)
		s := "a" + strings.Repeat(tail, 10)
		refusesExpr(t, s, impl.RdBig, len(s))
	}
	// Each is not too deep where it stands, but it becomes so by what is behind it.
	refusesExpr(t, "[[[[[[[[[1]]]]]]]]] + 1", impl.RdBig, 23)
	refusesExpr(t, "[[[[[[[[[1]]]]]]]]].a", impl.RdBig, 21)
	refusesExpr(t, "[[[[[[[[[1]]]]]]]]] ? 1 : 2", impl.RdBig, 27)
	refusesExpr(t, "[[[[[[[[[1 * 1]]]]]]]]]", impl.RdBig, 13)
	refusesExpr(t, "[[[[[[[[[a.b]]]]]]]]]", impl.RdBig, 21)
	for _, row := range []struct{ ahead, one, behind string }{{"[", "1", "]"}, {"f(", "a", ")"}, {"[", "[]", "]"}, {"f(", "{}", ")"}} {
		s := row.ahead + strings.Repeat(row.one+",", 148) + row.one + row.behind
		if e, code, _ := impl.ExprRead([]byte(s)); code != impl.RdWell || exprParts(e) != 150 {
			t.Error(s, code)
		}
		s = row.ahead + strings.Repeat(row.one+",", 149) + row.one + row.behind
		refusesExpr(t, s, impl.RdBig, len(s))
	}
	many := strings.ReplaceAll(manyKeys(149), " ", "=1,") + "=1"
	if e, code, _ := impl.ExprRead([]byte("{" + many + "}")); code != impl.RdWell || exprParts(e) != 150 {
		t.Error(code)
	}
	refusesExpr(t, "{"+many+",z=1}", impl.RdBig, len(many)+6)
	refusesExpr(t, "[{"+many+"}]", impl.RdBig, len(many)+4)
}

// TestWhichReasonCounts: where several apply, the one that the chapter names first.
func TestWhichReasonCounts(t *testing.T) {
	long := strings.Repeat(" ", 1200)
	deep, big := "!!!!!!!!!!!1", "1+1+1+1+1+1+1+1+1+1+1"
	for _, s := range []string{"~", ")", deep, big, "1"} {
		refusesExpr(t, s+long, impl.RdLong, 0)
	}
	// A byte that is none counts, wherever it is.
	refusesExpr(t, "1 + ) ~", impl.RdByte, 6)
	refusesExpr(t, "1 2 00", impl.RdByte, 4)
	refusesExpr(t, "{b = 1, a = 2} &", impl.RdByte, 15)
	refusesExpr(t, deep+" ~", impl.RdByte, 13)
	refusesExpr(t, deep+" \"", impl.RdByte, 13)
	refusesExpr(t, big+" A", impl.RdByte, 22)
	refusesExpr(t, "~ ) A", impl.RdByte, 0)
	// So does a form that is none, ahead of what is too deep or too big.
	refusesExpr(t, ") "+deep, impl.RdForm, 0)
	refusesExpr(t, deep+" )", impl.RdForm, 13)
	refusesExpr(t, deep+" +", impl.RdForm, 14)
	refusesExpr(t, deep+" 2 3", impl.RdForm, 13)
	refusesExpr(t, "[[[[[[[[[[[[", impl.RdForm, 12)
	refusesExpr(t, "[[[[[[[[[[[)", impl.RdForm, 11)
	refusesExpr(t, "!!!!!!!!!!", impl.RdForm, 10)
	refusesExpr(t, "!!!!!!!!!!)", impl.RdForm, 10)
	refusesExpr(t, "!!!!!!!!!!res", impl.RdForm, 10)
	refusesExpr(t, "!!!!!!!!!!$1", impl.RdForm, 11)
	refusesExpr(t, "{b = "+deep+", a = 1}", impl.RdForm, 19)
	refusesExpr(t, "{b = 1, a = "+deep+"}", impl.RdForm, 8)
	refusesExpr(t, big+" )", impl.RdForm, 22)
	// What is too deep counts ahead of what is too big.
	refusesExpr(t, big+" + "+deep, impl.RdBig, 33)
	refusesExpr(t, deep+" + "+big, impl.RdBig, 10)
	refusesExpr(t, "["+strings.Repeat("1,", 200)+deep+"]", impl.RdBig, 410)
	// And the first that is too deep ahead of the others.
	refusesExpr(t, deep+" + "+deep, impl.RdBig, 10)
	refusesExpr(t, "["+deep+", "+deep+"]", impl.RdBig, 10)
}

// readsByRule fails where s is not answered as the rules say, and gives the code.
func readsByRule(t *testing.T, s string) int {
	t.Helper()
	e, code, at := impl.ExprRead([]byte(s))
	want, c, place := exprReadByRule(s)
	if code != c || at != place || !alike(e, want) {
		t.Fatalf("%q: %s, %d at %d, wanted %s, %d at %d", s, exprTextOr(e), code, at, exprTextOr(want), c, place)
	}
	return code
}

// drawnSources are so many texts that may be expressions, or nearly so.
func drawnSources(n int) []string {
	d := draw(n + 3)
	var out []string
	exprs := drawnExprs(n / 4)
	for i := range n {
		var s string
		if i%2 == 0 {
			s = d.spaced(d.derived("expr", 4+d.upTo(14)))
		} else {
			pieces, _ := piecesByRule(exprTextByRule(exprs[i/4]))
			s = d.spaced(textsOfPieces(pieces))
		}
		if len(s) > 400 {
			continue
		}
		if i%4 > 1 {
			s = d.meddledText(s)
		}
		out = append(out, s)
	}
	return out
}

func textsOfPieces(pieces []piece) []string {
	var out []string
	for _, p := range pieces {
		out = append(out, p.text)
	}
	return out
}

func TestSourcesByRule(t *testing.T) {
	codes := map[int]int{}
	for _, s := range drawnSources(6000) {
		codes[readsByRule(t, s)]++
	}
	// Signs that go deep, with something wrong here and there.
	d := draw(9)
	for range 2000 {
		n := nests[d.upTo(len(nests))]
		m := nests[d.upTo(len(nests))]
		s := nested(n.ahead, 3+d.upTo(6), nested(m.ahead, d.upTo(6), "(1)", m.behind), n.behind)
		if d.upTo(3) == 0 {
			s = d.meddledText(s)
		}
		codes[readsByRule(t, s)]++
	}
	for _, code := range []int{impl.RdWell, impl.RdByte, impl.RdForm, impl.RdBig} {
		if codes[code] < 300 {
			t.Error(codes, "the draws tell nothing")
		}
	}
}

// TestAllShortSources reads all texts of a few pieces.
func TestAllShortSources(t *testing.T) {
	pieces := []string{"1", "a", "res", `"x"`, "(", ")", "[", "]", "{", "}", "=", "==", "!", "-", "?", ":", ",", ".", "$", "&&"}
	tries := []string{""}
	for range 3 {
		var more []string
		for _, s := range tries {
			for _, p := range pieces {
				more = append(more, s+" "+p)
			}
		}
		for _, s := range more {
			readsByRule(t, s)
		}
		tries = more
	}
}

// TestReadExprsComeBack: what is read comes back from its text, where that is not too long.
func TestReadExprsComeBack(t *testing.T) {
	read := 0
	for _, s := range drawnSources(4000) {
		e, code, _ := impl.ExprRead([]byte(s))
		if code != impl.RdWell {
			continue
		}
		read++
		if !impl.ExprOk(e) {
			t.Error(s)
		}
		if text := impl.ExprText(e); len(text) <= impl.MaxSource {
			readsAs(t, string(text), e)
		}
	}
	if read < 800 {
		t.Error(read, "the draws tell nothing")
	}
}

// TestBlanksChangeNothingButPlaces puts others between the tokens of a source.
func TestBlanksChangeNothingButPlaces(t *testing.T) {
	d := draw(11)
	codes := map[int]int{}
	for _, s := range append(drawnSources(3000), "!!!!!!!!!!!1", "[[[[[[[[[[[1]]]]]]]]]]]", "1+1+1+1+1+1+1+1+1+1+1", "{b = 1, a = 2}") {
		pieces, none := piecesByRule(s)
		if none >= 0 {
			continue
		}
		other := d.spaced(textsOfPieces(pieces))
		moved, _ := piecesByRule(other)
		e, code, at := impl.ExprRead([]byte(s))
		x, c, place := impl.ExprRead([]byte(other))
		codes[c]++
		if c != code || !alike(e, x) {
			t.Fatalf("%q and %q: %d and %d", s, other, code, c)
		}
		if code == impl.RdWell {
			continue
		}
		want := len(other)
		for i, p := range pieces {
			if p.at == at {
				want = moved[i].at
			}
		}
		if place != want {
			t.Fatalf("%q and %q: at %d, wanted %d", s, other, place, want)
		}
	}
	for _, code := range []int{impl.RdWell, impl.RdForm, impl.RdBig} {
		if codes[code] < 3 {
			t.Error(codes)
		}
	}
}
