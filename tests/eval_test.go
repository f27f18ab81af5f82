package tests

import (
	"slices"
	"strconv"
	"strings"
	"testing"

	"loop.example/g00407/impl"
)

// exprFrom reads an expression that the tests themselves wrote.
func exprFrom(text string) impl.Expr {
	e, code, at := impl.ExprRead([]byte(text))
	if code != impl.RdWell {
		panic(text + " at " + strconv.Itoa(at))
	}
	return e
}

// someEnv has a local of each kind: of each bool, and lists and maps that are empty, known and known in part.
func someEnv() impl.Env {
	return impl.Env{
		Locals: vMap("e f i l lu m me mu n s t u",
			vList(), vFalse, vInt(3), vList(vInt(1), vInt(2), vInt(4)), vList(vInt(1), vUnknown), vMap("a b", vInt(1), vText("x")), vMap(""), vMap("a b", vUnknown, vInt(2)), vNull, vText("ab"), vTrue, vUnknown),
		Res:   vMap("db web", vUnknown, vMap("id size", vUnknown, vInt(4))),
		Index: vInt(2),
		Key:   vText("k"),
		Val:   vList(vTrue),
	}
}

// localsOfEach are the locals of someEnv.
var localsOfEach = strings.Fields("$e $f $i $l $lu $m $me $mu $n $s $t $u")

// codeWords are the codes as the tables below tell them.
var codeWords = []string{impl.EvForm: "form", impl.EvType: "type", impl.EvLack: "lack", impl.EvOver: "over", impl.EvWord: "word"}

// answerText is a value's text, or the word of the code.
func answerText(v impl.Value, code int) string {
	if code == impl.EvWell {
		return string(impl.ValText(v))
	}
	if !alike(v, impl.Value{}) || code < 0 || code >= len(codeWords) {
		return "a value beside a code"
	}
	return codeWords[code]
}

// evaluate fails where an expression of the table is not what stands beside it.
func evaluate(t *testing.T, v impl.Env, table [][2]string) {
	t.Helper()
	for _, c := range table {
		if got := answerText(impl.Eval(exprFrom(c[0]), v)); got != c[1] {
			t.Errorf("%s is %s, wanted %s", c[0], got, c[1])
		}
	}
}

func TestEnvOk(t *testing.T) {
	empty := impl.Env{Locals: vMap(""), Res: vMap("")}
	for why, v := range map[string]impl.Env{
		"empty maps":   empty,
		"one of each":  someEnv(),
		"all unknown":  {Locals: vMap("a", vUnknown), Res: vMap("b", vUnknown), Index: vUnknown, Key: vUnknown, Val: vUnknown},
		"unknown deep": {Locals: vMap("a", vList(vUnknown)), Res: vMap("a", vMap("b", vUnknown)), Val: vList(vMap("b", vUnknown))},
		"odd kinds":    {Locals: vMap(""), Res: vMap(""), Index: vText("a"), Key: vInt(1), Val: vMap("")},
		"full ones":    {Locals: wideMap(40), Res: wideMap(40), Index: wide(40), Key: wideMap(40), Val: deepLists(5)},
		"deep maps":    {Locals: deepMaps(5), Res: deepMaps(5)},
	} {
		if !impl.EnvOk(v) {
			t.Error(why)
		}
	}
	for why, bad := range badValues() {
		for place := range 5 {
			v := empty
			*[]*impl.Value{&v.Locals, &v.Res, &v.Index, &v.Key, &v.Val}[place] = bad
			if impl.EnvOk(v) {
				t.Error(why, place)
			}
			if got := answerText(impl.Eval(eInt(1), v)); got != "form" {
				t.Error(why, place, got)
			}
		}
	}
	for _, x := range []impl.Value{vNull, vTrue, vFalse, vInt(0), vText(""), vText("a"), vList(), vList(vMap("")), vUnknown} {
		for place := range 2 {
			v := empty
			*[]*impl.Value{&v.Locals, &v.Res}[place] = x
			if impl.EnvOk(v) || answerText(impl.Eval(eInt(1), v)) != "form" {
				t.Error(place, x)
			}
		}
	}
	if impl.EnvOk(impl.Env{}) {
		t.Error("no maps at all")
	}
}

func TestEvalOfWhatMayNotBe(t *testing.T) {
	eachBadExpr(func(why string, e impl.Expr) {
		for _, v := range []impl.Env{someEnv(), {Locals: vMap(""), Res: vMap("")}, {}} {
			if got := answerText(impl.Eval(e, v)); got != "form" {
				t.Error(why, got)
			}
		}
	})
	// Ahead of all else, though another kid has a code already, or is not asked at all.
	for _, e := range []impl.Expr{
		eOf(impl.ExAdd, eLocal("none"), eInt(-1)),
		eOf(impl.ExAnd, eFalse, eInt(-1)),
		eOf(impl.ExOr, eTrue, eInt(-1)),
		eOf(impl.ExIf, eTrue, eInt(1), eInt(-1)),
		eOf(impl.ExIf, eFalse, eInt(-1), eInt(1)),
		eOf(impl.ExIf, eLocal("u"), eInt(1), eInt(-1)),
		eSays(impl.ExCall, "null"),
	} {
		if got := answerText(impl.Eval(e, someEnv())); got != "form" {
			t.Error(e, got)
		}
	}
	broken := someEnv()
	broken.Val = vInt(impl.MaxInt + 1)
	for _, text := range []string{"1", "$none", "1 + true", "foo()", "true ? 1 : val", "false && val"} {
		if got := answerText(impl.Eval(exprFrom(text), broken)); got != "form" {
			t.Error(text, got)
		}
	}
}

func TestAtomsAreThemselves(t *testing.T) {
	evaluate(t, someEnv(), [][2]string{
		{"null", "null"}, {"true", "true"}, {"false", "false"}, {"0", "0"}, {"7", "7"}, {"1000000000000", "1000000000000"},
		{`""`, `""`}, {`"a\"\\ ~"`, `"a\"\\ ~"`}, {`"01234567890123456789"`, `"01234567890123456789"`},
		{"index", "2"}, {"key", `"k"`}, {"val", "[true]"},
	})
	evaluate(t, impl.Env{Locals: vMap(""), Res: vMap("")}, [][2]string{{"index", "null"}, {"key", "null"}, {"val", "null"}})
	evaluate(t, impl.Env{Locals: vMap(""), Res: vMap(""), Index: vUnknown, Key: vMap("a", vUnknown), Val: vText("v")}, [][2]string{{"index", "?"}, {"key", "{a = ?}"}, {"val", `"v"`}})
	for _, x := range goodValues() {
		v := impl.Env{Locals: vMap(""), Res: vMap(""), Val: x}
		if got, code := impl.Eval(eVal, v); code != impl.EvWell || !alike(got, x) {
			t.Error(textByRule(x))
		}
	}
}

func TestLocalsAndResources(t *testing.T) {
	evaluate(t, someEnv(), [][2]string{
		{"$i", "3"}, {"$e", "[]"}, {"$u", "?"}, {"$n", "null"}, {"$lu", "[1, ?]"}, {"$mu", "{a = ?, b = 2}"},
		{"$none", "lack"}, {"$a", "lack"}, {"$ii", "lack"}, {"$null", "lack"},
		{"web", "{id = ?, size = 4}"}, {"db", "?"}, {"none", "lack"}, {"we", "lack"}, {"webs", "lack"},
		{"$web", "lack"}, {"i", "lack"}, {"id", "lack"},
	})
	evaluate(t, impl.Env{Locals: vMap(""), Res: vMap("")}, [][2]string{{"$i", "lack"}, {"web", "lack"}})
	evaluate(t, impl.Env{Locals: vMap("a res", vInt(1), vInt(3)), Res: vMap("a", vInt(2))}, [][2]string{{"$a", "1"}, {"a", "2"}, {"$res", "3"}})
}

func TestGet(t *testing.T) {
	evaluate(t, someEnv(), [][2]string{
		{"web.size", "4"}, {"web.id", "?"}, {"web.none", "lack"}, {"$m.a", "1"}, {"$m.b", `"x"`}, {"$m.c", "lack"}, {"$me.a", "lack"}, {"$mu.b", "2"}, {"$mu.a", "?"}, {"$mu.a.b.c", "?"}, {"db.id", "?"}, {"db.id.id", "?"}, {"$u.a", "?"},
		{"$n.a", "type"}, {"$t.a", "type"}, {"$f.a", "type"}, {"$i.a", "type"}, {"$s.a", "type"}, {"$l.a", "type"}, {"$e.a", "type"}, {"$lu.a", "type"}, {"web.size.a", "type"},
		{"$none.a", "lack"}, {"(1 + true).a", "type"}, {"foo().a", "word"}, {"{a = {b = 5}}.a.b", "5"},
	})
}

func TestItem(t *testing.T) {
	evaluate(t, someEnv(), [][2]string{
		{"$l[0]", "1"}, {"$l[1]", "2"}, {"$l[2]", "4"}, {"$l[3]", "lack"}, {"$l[4]", "lack"}, {"$l[-1]", "lack"}, {"$l[-3]", "lack"}, {"$l[1000000000000]", "lack"}, {"$l[-1000000000000]", "lack"}, {"$e[0]", "lack"}, {"$l[-0]", "1"}, {"[[5]][0][0]", "5"},
		{`$m["a"]`, "1"}, {`$m["b"]`, `"x"`}, {`$m["c"]`, "lack"}, {`$m[""]`, "lack"}, {`$m["A b"]`, "lack"}, {`$m["abcdefghijkl"]`, "lack"}, {`$me["a"]`, "lack"}, {"$m[$s]", "lack"}, {`web[cat("si", "ze")]`, "4"},
		{`$l["a"]`, "type"}, {`$e[""]`, "type"}, {"$m[0]", "type"}, {"$me[0]", "type"},
		{"$lu[0]", "1"}, {"$lu[1]", "?"}, {"$lu[2]", "lack"}, {`$mu["a"]`, "?"}, {`$mu["b"]`, "2"}, {`$mu["c"]`, "lack"}, {"[1, web.id][0]", "1"},
		// Unknown, if one is, though what it turns out to be may not fit.
		{"$l[$u]", "?"}, {"$e[$u]", "?"}, {"$m[$u]", "?"}, {"$me[$u]", "?"}, {"$u[0]", "?"}, {"$u[-1]", "?"}, {`$u["a"]`, "?"}, {"$u[$u]", "?"},
		// But what can't be at all is told ahead of that.
		{"$u[$n]", "type"}, {"$u[$t]", "type"}, {"$u[$l]", "type"}, {"$u[$m]", "type"}, {"$u[$lu]", "type"}, {"$n[$u]", "type"}, {"$t[$u]", "type"}, {"$i[$u]", "type"}, {"$s[$u]", "type"},
		{"$n[0]", "type"}, {"$t[0]", "type"}, {"$i[0]", "type"}, {"$s[0]", "type"}, {"$l[$n]", "type"}, {"$l[$f]", "type"}, {"$l[$l]", "type"}, {"$l[$m]", "type"}, {"$m[$n]", "type"}, {"$m[$t]", "type"}, {"$m[$l]", "type"}, {"$m[$m]", "type"}, {"$n[$n]", "type"},
		// Both kids are asked ahead of all that.
		{"$none[true]", "lack"}, {"$l[$none]", "lack"}, {"$u[$none]", "lack"}, {"1[$none]", "lack"}, {"foo()[$none]", "word"}, {"$none[foo()]", "lack"}, {"$l[1 + true]", "type"},
	})
}

func TestNotAndNeg(t *testing.T) {
	evaluate(t, someEnv(), [][2]string{
		{"!true", "false"}, {"!false", "true"}, {"!!true", "true"}, {"!$u", "?"}, {"!$n", "type"}, {"!$i", "type"}, {"!$s", "type"}, {"!$l", "type"}, {"!$e", "type"}, {"!$m", "type"}, {"!$lu", "type"}, {"!$mu", "type"}, {"!0", "type"}, {"!1", "type"},
		{"-3", "-3"}, {"--3", "3"}, {"-0", "0"}, {"-1000000000000", "-1000000000000"}, {"--1000000000000", "1000000000000"}, {"-$u", "?"}, {"-$n", "type"}, {"-$t", "type"}, {"-$f", "type"}, {"-$s", "type"}, {"-$l", "type"}, {"-$e", "type"}, {"-$m", "type"}, {"-$lu", "type"},
		{"!$none", "lack"}, {"-$none", "lack"}, {"!-$u", "?"}, {"-!$u", "?"}, {"!-1", "type"}, {"-!true", "type"},
	})
	for _, n := range []int{impl.MaxInt, -impl.MaxInt, 1, 0} {
		v := impl.Env{Locals: vMap(""), Res: vMap(""), Val: vInt(n)}
		if x, code := impl.Eval(eOf(impl.ExNeg, eVal), v); code != impl.EvWell || x.N != -n {
			t.Error(n, x, code)
		}
	}
}

func TestNumbers(t *testing.T) {
	evaluate(t, someEnv(), [][2]string{
		{"2 * 3", "6"}, {"2 * -3", "-6"}, {"-2 * -3", "6"}, {"0 * -3", "0"}, {"2 + 3", "5"}, {"2 + -3", "-1"}, {"2 - 3", "-1"}, {"-2 - -3", "1"}, {"1 + 2 * 3", "7"}, {"10 - 2 - 3", "5"},
		{"2 < 3", "true"}, {"3 < 3", "false"}, {"3 < 2", "false"}, {"-1 < 0", "true"}, {"-1000000000000 < 1000000000000", "true"}, {"1000000000000 < -1000000000000", "false"},
		{"999999999999 + 1", "1000000000000"}, {"1000000000000 + 0", "1000000000000"}, {"1000000000000 + 1", "over"}, {"1000000000000 + 1000000000000", "over"},
		{"-999999999999 + -1", "-1000000000000"}, {"-1000000000000 + -1", "over"}, {"-1000000000000 + -1000000000000", "over"}, {"1000000000000 + -1000000000000", "0"},
		{"-999999999999 - 1", "-1000000000000"}, {"-1000000000000 - 1", "over"}, {"1000000000000 - -1", "over"}, {"999999999999 - -1", "1000000000000"}, {"1000000000000 - 1000000000000", "0"}, {"0 - 1000000000000", "-1000000000000"}, {"-1000000000000 - 1000000000000", "over"},
		{"1000000 * 1000000", "1000000000000"}, {"1000000 * 1000001", "over"}, {"1000001 * 1000000", "over"}, {"-1000000 * 1000000", "-1000000000000"}, {"1000000 * -1000000", "-1000000000000"}, {"-1000000 * -1000000", "1000000000000"}, {"-1000001 * 1000000", "over"}, {"1000001 * -1000000", "over"}, {"-1000001 * -1000000", "over"},
		{"1000000000000 * 1", "1000000000000"}, {"1000000000000 * 2", "over"}, {"2 * 1000000000000", "over"}, {"1000000000000 * -1", "-1000000000000"}, {"1000000000000 * 0", "0"}, {"0 * 1000000000000", "0"}, {"3 * 333333333333", "999999999999"}, {"3 * 333333333334", "over"}, {"333333333334 * 3", "over"},
		// These wrap round to a small number in 64 bits.
		{"4294967296 * 4294967296", "over"}, {"1000000000000 * 1000000000000", "over"}, {"-1000000000000 * 1000000000000", "over"}, {"274877906944 * 67108864", "over"}, {"549755813888 * 67108864", "over"},
		{"1000000000000 + 1 - 1", "over"}, {"1000000000000 - 1 + 1", "1000000000000"},
	})
	var table [][2]string
	for _, op := range []string{"*", "+", "-", "<"} {
		for _, other := range strings.Fields("$e $f $l $lu $m $me $mu $n $s $t") {
			for _, with := range []string{"$i", "$u", other, "$none"} {
				want := "type"
				if with == "$none" {
					want = "lack"
				}
				table = append(table, [2]string{other + " " + op + " " + with, want}, [2]string{with + " " + op + " " + other, want})
			}
		}
		for _, both := range []string{"$u OP $i", "$i OP $u", "$u OP $u", "1000000000000 OP $u", "$u OP 0", "0 OP $u"} {
			table = append(table, [2]string{strings.Replace(both, "OP", op, 1), "?"})
		}
		table = append(table, [2]string{"$none " + op + " foo()", "lack"}, [2]string{"foo() " + op + " $none", "word"}, [2]string{"$u " + op + " $none", "lack"}, [2]string{"(1 + true) " + op + " $none", "type"})
	}
	evaluate(t, someEnv(), table)
}

func TestEqual(t *testing.T) {
	evaluate(t, someEnv(), [][2]string{
		{"1 == 1", "true"}, {"1 == 2", "false"}, {`1 == "1"`, "false"}, {"0 == false", "false"}, {"null == null", "true"}, {"null == false", "false"}, {"true == true", "true"}, {"true == false", "false"}, {`"a" == "a"`, "true"}, {`"a" == "b"`, "false"}, {`"" == null`, "false"},
		{"[] == []", "true"}, {"[] == {}", "false"}, {"[1, 2] == [1, 2]", "true"}, {"[1, 2] == [2, 1]", "false"}, {"[1] == [1, 1]", "false"}, {"{a = 1} == {a = 1}", "true"}, {"{a = 1} == {a = 2}", "false"}, {"{a = 1} == {b = 1}", "false"}, {"{a = [1, {b = 2}]} == {a = [1, {b = 2}]}", "true"}, {"$m == {a = 1, b = \"x\"}", "true"},
		// What has an unknown part may turn out to be anything there, even if another part differs.
		{"$u == 1", "?"}, {"1 == $u", "?"}, {"$u == $u", "?"}, {"$lu == $lu", "?"}, {"$lu == [1, 2]", "?"}, {"[1, 2] == $lu", "?"}, {"$lu == [2, 2]", "?"}, {"$lu == 1", "?"}, {"null == $mu", "?"}, {"$mu == $lu", "?"}, {"web == {}", "?"}, {"[[web]] == 1", "?"},
		{"$none == 1", "lack"}, {"1 == $none", "lack"}, {"$u == $none", "lack"}, {"$none == foo()", "lack"}, {"foo() == $none", "word"},
	})
}

func TestAnd(t *testing.T) {
	table := [][2]string{
		{"true && true", "true"}, {"true && false", "false"}, {"false && true", "false"}, {"false && false", "false"},
		{"$u && true", "?"}, {"$u && false", "false"}, {"$u && $u", "?"}, {"true && $u", "?"}, {"false && $u", "false"},
		// The second one is not asked where the first is false.
		{"false && $none", "false"}, {"false && foo()", "false"}, {"false && 1", "false"}, {"false && (1 + true)", "false"}, {"false && (1000000000000 + 1)", "false"},
		{"true && $none", "lack"}, {"true && foo()", "word"}, {"$u && $none", "lack"}, {"$u && foo()", "word"}, {"$u && (1000000000000 + 1)", "over"},
		{"$none && false", "lack"}, {"$none && foo()", "lack"}, {"foo() && false", "word"},
		{"true && true && false", "false"}, {"$u && true && false", "false"},
	}
	for _, other := range strings.Fields("$e $i $l $lu $m $me $mu $n $s") {
		table = append(table, [2]string{other + " && true", "type"}, [2]string{other + " && false", "type"}, [2]string{other + " && $u", "type"}, [2]string{other + " && $none", "type"}, [2]string{other + " && foo()", "type"},
			[2]string{"true && " + other, "type"}, [2]string{"$u && " + other, "type"}, [2]string{"false && " + other, "false"})
	}
	evaluate(t, someEnv(), table)
}

func TestOr(t *testing.T) {
	table := [][2]string{
		{"true || true", "true"}, {"true || false", "true"}, {"false || true", "true"}, {"false || false", "false"},
		{"$u || true", "true"}, {"$u || false", "?"}, {"$u || $u", "?"}, {"false || $u", "?"}, {"true || $u", "true"},
		// The second one is not asked where the first is true.
		{"true || $none", "true"}, {"true || foo()", "true"}, {"true || 1", "true"}, {"true || (1 + true)", "true"},
		{"false || $none", "lack"}, {"false || foo()", "word"}, {"$u || $none", "lack"}, {"$u || foo()", "word"}, {"$u || (1000000000000 + 1)", "over"},
		{"$none || true", "lack"}, {"$none || foo()", "lack"}, {"foo() || true", "word"},
		{"false || false || true", "true"}, {"$u || false || true", "true"},
	}
	for _, other := range strings.Fields("$e $i $l $lu $m $me $mu $n $s") {
		table = append(table, [2]string{other + " || true", "type"}, [2]string{other + " || false", "type"}, [2]string{other + " || $u", "type"}, [2]string{other + " || $none", "type"}, [2]string{other + " || foo()", "type"},
			[2]string{"false || " + other, "type"}, [2]string{"$u || " + other, "type"}, [2]string{"true || " + other, "true"})
	}
	evaluate(t, someEnv(), table)
}

func TestIf(t *testing.T) {
	table := [][2]string{
		{"true ? 1 : 2", "1"}, {"false ? 1 : 2", "2"}, {"$u ? 1 : 2", "?"}, {"$u ? 1 : 1", "?"}, {"true ? $u : 2", "?"}, {"false ? $u : 2", "2"}, {"true ? $lu : $none", "[1, ?]"},
		// The one that is not chosen is not asked, and neither of them where nothing is chosen.
		{"true ? 1 : $none", "1"}, {"false ? $none : 2", "2"}, {"true ? 1 : foo(1 + true)", "1"}, {"false ? 1000000000000 * 2 : 2", "2"}, {"$u ? $none : foo()", "?"}, {"$u ? 1 + true : 1", "?"},
		{"true ? $none : 1", "lack"}, {"false ? 1 : $none", "lack"}, {"true ? foo() : $none", "word"}, {"false ? foo() : $none", "lack"},
		{"$none ? 1 : 2", "lack"}, {"$none ? foo() : foo()", "lack"}, {"foo() ? $none : $none", "word"},
		{"true ? false ? 1 : 2 : 3", "2"}, {"$u == 1 ? 1 : 2", "?"},
	}
	for _, other := range strings.Fields("$e $i $l $lu $m $me $mu $n $s 0 1") {
		table = append(table, [2]string{other + " ? 1 : 2", "type"}, [2]string{other + " ? $none : $none", "type"}, [2]string{other + " ? $u : $u", "type"})
	}
	evaluate(t, someEnv(), table)
}

func TestListsAndMaps(t *testing.T) {
	evaluate(t, someEnv(), [][2]string{
		{"[]", "[]"}, {"{}", "{}"}, {"[1, null, $u]", "[1, null, ?]"}, {"[[], {}]", "[[], {}]"}, {"{a = 1, b = $u}", "{a = 1, b = ?}"}, {"{a = {b = [web.size + 1]}}", "{a = {b = [5]}}"}, {"[$l, $l]", "[[1, 2, 4], [1, 2, 4]]"}, {"{null = index, res = key}", `{null = 2, res = "k"}`},
		{"[1, $none, foo()]", "lack"}, {"[foo(), $none]", "word"}, {"[$u, 1 + true, $none]", "type"}, {"{a = $u, b = $none, c = foo()}", "lack"}, {"{a = foo(), b = $none}", "word"},
		{"[[[[[]]]]]", "[[[[[]]]]]"}, {"[[[[1]]]]", "[[[[1]]]]"}, {"[[[[[1]]]]]", "over"}, {"[[[[[[]]]]]]", "over"}, {"{a = {a = {a = {a = {}}}}}", "{a = {a = {a = {a = {}}}}}"}, {"{a = {a = {a = {a = {a = {}}}}}}", "over"}, {"{a = [{a = [{a = 1}]}]}", "over"},
		// The depth is told from each on: what is in something deep that is no list counts for itself.
		{"[[[[[1]][0]]]]", "[[[[1]]]]"}, {"[[[[[[1]][0]]]]]", "over"}, {"[[[[[len([])]]]]]", "over"}, {"[[[[len([[[[[]]]]])]]]]", "[[[[1]]]]"},
		{"[[[[[[]]]]], $none]", "lack"}, {"[[[[[[[]]]]]], $none]", "over"}, {"[$none, [[[[[[]]]]]]]", "lack"}, {"[[[[[$none]]]]]", "lack"},
	})
	for parts, want := range map[int]int{1: impl.EvWell, 39: impl.EvWell, 40: impl.EvWell, 41: impl.EvOver, 42: impl.EvOver, 150: impl.EvOver} {
		for _, e := range []impl.Expr{wideExpr(parts), wideExprMap(parts)} {
			if x, code := impl.Eval(e, someEnv()); code != want || code == impl.EvWell && impl.ValParts(x) != parts {
				t.Error(parts, code)
			}
		}
	}
	// Parts are those of the value, not of the expression.
	full := impl.Env{Locals: wideMap(40), Res: vMap(""), Index: wide(39), Key: deepLists(4), Val: wide(20)}
	evaluate(t, full, [][2]string{
		{"len([index])", "1"}, {"len({a = index})", "1"}, {"[index, 1]", "over"}, {"[[index]]", "over"}, {"{a = 1, b = index}", "over"}, {"[val, val]", "over"}, {"len([val, $aa])", "2"},
		{"[key]", "[[[[[]]]]]"}, {"[[key]]", "over"}, {"{a = key}", "{a = [[[[]]]]}"}, {"{a = [key]}", "over"}, {"[val, val, $none]", "lack"}, {"[[val, val], $none]", "over"},
	})
	// Far more parts than an expression can have.
	if got := answerText(impl.Eval(eOf(impl.ExList, slices.Repeat([]impl.Expr{eIndex}, 149)...), full)); got != "over" {
		t.Error(got)
	}
}

func TestCallsInExpressions(t *testing.T) {
	evaluate(t, someEnv(), [][2]string{
		{"len(web)", "2"}, {"len($lu)", "2"}, {`has(web, "id")`, "true"}, {"keys(web)", `["id", "size"]`}, {"vals(web)", "[?, 4]"}, {"max(-1, $i)", "3"}, {`cat($s, "c")`, `"abc"`}, {"len($u)", "?"},
		{"foo()", "word"}, {"foo(1)", "word"}, {"len()", "word"}, {"len($s, $s)", "word"}, {"lens($s)", "word"}, {"le($s)", "word"}, {"web(1)", "word"},
		// The kids are asked ahead of the function.
		{"foo($none)", "lack"}, {"len($none, 1)", "lack"}, {"foo(1, 1 + true, $none)", "type"}, {"len(foo(), $none)", "word"}, {"min(true, $none)", "lack"}, {"len(1)", "type"}, {"cat($u, 1)", "type"}, {`cat("0123456789", "01234567890")`, "over"},
	})
	for kids, want := range map[int]string{39: "word", 40: "word", 41: "form", 149: "form"} {
		for _, name := range []string{"foo", "len"} {
			if got := answerText(impl.Eval(eSays(impl.ExCall, name, make([]impl.Expr, kids)...), someEnv())); got != want {
				t.Error(name, kids, got)
			}
		}
	}
	late := make([]impl.Expr, 60)
	late[59] = eLocal("none")
	if got := answerText(impl.Eval(eSays(impl.ExCall, "len", late...), someEnv())); got != "lack" {
		t.Error(got)
	}
}

// TestEachKindWithEach: each kind of expression with a value of each kind at each place.
func TestEachKindWithEach(t *testing.T) {
	v := someEnv()
	kids := []impl.Expr{eLocal("none"), eSays(impl.ExCall, "foo")}
	for _, name := range localsOfEach {
		kids = append(kids, exprFrom(name))
	}
	for kind, c := range oneOfEach {
		number := len(c.e.Kids)
		choices := 1
		for range number {
			choices *= len(kids)
		}
		for choice := range choices {
			e := c.e
			e.Kids = nil
			for range number {
				e.Kids = append(e.Kids, kids[choice%len(kids)])
				choice /= len(kids)
			}
			evaluatesByRule(t, e, v)
		}
		if t.Failed() {
			t.Fatal(kind)
		}
	}
}

// TestNumbersAtTheEnds: sums, differences and products around each end.
func TestNumbersAtTheEnds(t *testing.T) {
	var ends []int
	for _, n := range []int{0, 1000000, 1 << 20, 1 << 32, impl.MaxInt / 3, impl.MaxInt / 2, impl.MaxInt} {
		for _, by := range []int{-2, -1, 0, 1, 2} {
			for _, x := range []int{n + by, -n + by} {
				if -impl.MaxInt <= x && x <= impl.MaxInt {
					ends = append(ends, x)
				}
			}
		}
	}
	for _, a := range ends {
		for _, b := range ends {
			v := impl.Env{Locals: vMap("a b", vInt(a), vInt(b)), Res: vMap("")}
			for _, kind := range []int{impl.ExMul, impl.ExAdd, impl.ExSub, impl.ExLess, impl.ExEq} {
				evaluatesByRule(t, eOf(kind, eLocal("a"), eLocal("b")), v)
			}
			if t.Failed() {
				t.Fatal(a, b)
			}
		}
	}
}
