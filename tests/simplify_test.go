package tests

import (
	"slices"
	"strings"
	"testing"

	"loop.example/g00407/impl"
)

func TestExprParts(t *testing.T) {
	for text, want := range map[string]int{
		"null": 1, "$a": 1, "web": 1, "index": 1, "-3": 2, "!true": 2, "[]": 1, "[1, 2]": 3, "{}": 1, "{a = 1, b = [2]}": 4, "web.id": 2, "web[0]": 3, "web[0].id": 4, "1 + 2": 3, "1 + 2 * $a": 5, "$a + (1 + 2 * 3)": 7, "true ? 1 : 2": 4, "f()": 1, "f(1, f(2))": 4, "((1))": 1, "a && b || c": 5,
	} {
		if got := impl.ExprParts(exprFrom(text)); got != want {
			t.Error(text, got, want)
		}
	}
	for _, parts := range []int{1, 2, 149, 150} {
		for _, e := range []impl.Expr{wideExpr(parts), wideExprMap(parts), eSays(impl.ExCall, "f", wideExpr(parts).Kids...)} {
			if got := impl.ExprParts(e); got != parts {
				t.Error(parts, got)
			}
		}
	}
	for _, e := range slices.Concat(goodExprs(), drawnExprs(1000)) {
		if got := impl.ExprParts(e); got != exprParts(e) {
			t.Error(exprTextByRule(e), got)
		}
	}
	eachBadExpr(func(why string, e impl.Expr) {
		if got := impl.ExprParts(e); got != 0 {
			t.Error(why, got)
		}
	})
}

// rename fails where from, as a local of an expression, does not become to.
func rename(t *testing.T, text string, from string, to string, want string) {
	t.Helper()
	e, ok := impl.Rename(exprFrom(text), []byte(from), []byte(to))
	if got := string(impl.ExprText(e)); !ok || got != want {
		t.Errorf("%s with %s for %s is %s, %t, wanted %s", text, to, from, got, ok, want)
	}
}

func TestRename(t *testing.T) {
	for _, c := range [][4]string{
		{"1", "a", "b", "1"},
		{"$c", "a", "b", "$c"},
		{"$a", "a", "b", "$b"},
		{"$a", "a", "a", "$a"},
		{"$a", "a", "abcdefgh", "$abcdefgh"},
		{"$abcdefgh", "abcdefgh", "a", "$a"},
		{"$ab + $a", "a", "b", "$ab + $b"},
		{"$a + $ab", "ab", "b", "$a + $b"},
		{"$a + $a * $a", "a", "b", "$b + ($b * $b)"},
		// A to that is there already is not told from the others any more.
		{"$a + $b", "a", "b", "$b + $b"},
		{"$a + $b", "b", "a", "$a + $a"},
		// Nothing but locals is renamed.
		{"a + a.a + a(a, $a)", "a", "b", "(a + a.a) + a(a, $b)"},
		{`{a = "a", b = $a}`, "a", "c", `{a = "a", b = $c}`},
		{`$a["a"].a`, "a", "b", `$b["a"].a`},
		{"index + key + val", "index", "a", "(index + key) + val"},
		{"$index + index", "index", "key", "$key + index"},
		{"$null", "null", "true", "$true"},
		{"$a", "a", "res", "$res"},
		{"$x ? [$x, {k = $x}] : f(!$x, -$x)", "x", "y", "$y ? [$y, {k = $y}] : f(!$y, -$y)"},
		{"$x == 1 && $x < 2 || $y[$x]", "x", "z", "(($z == 1) && ($z < 2)) || $y[$z]"},
	} {
		rename(t, c[0], c[1], c[2], c[3])
	}
	for place, around := range waysDown {
		e, want := eLocal("a"), eLocal("b")
		for range 9 {
			e, want = around(e), around(want)
		}
		if got, ok := impl.Rename(e, []byte("a"), []byte("b")); !ok || !alike(got, want) {
			t.Error(place)
		}
	}
	all := eOf(impl.ExList, slices.Repeat([]impl.Expr{eLocal("a")}, 149)...)
	if got, ok := impl.Rename(all, []byte("a"), []byte("b")); !ok || strings.Count(string(impl.ExprText(got)), "$b") != 149 {
		t.Error(ok)
	}
}

func TestRenameOfWhatMayNotBe(t *testing.T) {
	refuse := func(why string, e impl.Expr, from string, to string) {
		if got, ok := impl.Rename(e, []byte(from), []byte(to)); ok || !alike(got, impl.Expr{}) {
			t.Error(why, from, to)
		}
	}
	eachBadExpr(func(why string, e impl.Expr) { refuse(why, e, "a", "b") })
	for _, name := range notNames {
		for _, e := range []impl.Expr{eInt(1), eLocal("a"), eLocal("b")} {
			refuse("from", e, name, "b")
			refuse("to", e, "a", name)
			refuse("both", e, name, name)
		}
	}
	for _, e := range []impl.Expr{eLocal("a"), eNull} {
		if _, ok := impl.Rename(e, nil, []byte("a")); ok {
			t.Error("no from")
		}
		if _, ok := impl.Rename(e, []byte("a"), nil); ok {
			t.Error("no to")
		}
	}
}

// renamedByRule is e with to for from, part by part.
func renamedByRule(e impl.Expr, from string, to string) impl.Expr {
	if e.Kind == impl.ExLocal && string(e.S) == from {
		return eLocal(to)
	}
	kids := slices.Clone(e.Kids)
	for i, kid := range kids {
		kids[i] = renamedByRule(kid, from, to)
	}
	e.Kids = kids
	return e
}

func TestDrawnRenames(t *testing.T) {
	names := []string{"a", "b", "i", "u", "res", "s", "abcdefgh", "m"}
	d, some := draw(9), 0
	for _, e := range slices.Concat(drawnExprs(1500), drawnSense(1500)) {
		from, to := names[d.upTo(8)], names[d.upTo(8)]
		got, ok := impl.Rename(e, []byte(from), []byte(to))
		if !ok || !alike(got, renamedByRule(e, from, to)) || !impl.ExprOk(got) {
			t.Fatal(exprTextByRule(e), from, to)
		}
		if from != to && !alike(got, e) {
			some++
		}
	}
	if some < 100 {
		t.Error(some, "the draws tell nothing")
	}
}

func TestExprOf(t *testing.T) {
	for _, c := range []struct {
		v impl.Value
		e impl.Expr
	}{
		{vNull, eNull}, {vTrue, eTrue}, {vFalse, eFalse}, {vInt(0), eInt(0)}, {vInt(7), eInt(7)}, {vInt(-7), eOf(impl.ExNeg, eInt(7))}, {vInt(-1), eOf(impl.ExNeg, eInt(1))},
		{vInt(impl.MaxInt), eInt(impl.MaxInt)}, {vInt(-impl.MaxInt), eOf(impl.ExNeg, eInt(impl.MaxInt))},
		{vText(""), eText("")}, {vText(`a"\`), eText(`a"\`)}, {vList(), eOf(impl.ExList)}, {vMap(""), eMap("")},
		{vList(vInt(1), vInt(-1), vList(vNull)), eOf(impl.ExList, eInt(1), eOf(impl.ExNeg, eInt(1)), eOf(impl.ExList, eNull))},
		{vMap("a b", vInt(-2), vMap("c", vText("x"))), eMap("a b", eOf(impl.ExNeg, eInt(2)), eMap("c", eText("x")))},
		{deepLists(4, vInt(-1)), eOf(impl.ExList, eOf(impl.ExList, eOf(impl.ExList, eOf(impl.ExList, eOf(impl.ExNeg, eInt(1))))))},
	} {
		if got, ok := impl.ExprOf(c.v); !ok || !alike(got, c.e) {
			t.Error(textByRule(c.v), got, ok)
		}
	}
	negative := wide(40)
	for i := range negative.L {
		negative.L[i] = vInt(-1)
	}
	if e, ok := impl.ExprOf(negative); !ok || impl.ExprParts(e) != 79 {
		t.Error("39 numbers below 0")
	}
}

// knownIn are those of these values of which no part is unknown; the others beside them.
func knownIn(l []impl.Value) (known []impl.Value, others []impl.Value) {
	for _, v := range l {
		if strings.Contains(bytesOfKinds(v), "6") {
			others = append(others, v)
		} else {
			known = append(known, v)
		}
	}
	return known, others
}

func TestExprOfEachValue(t *testing.T) {
	known, others := knownIn(slices.Concat(goodValues(), drawnValues(1500), []impl.Value{vUnknown, vList(vUnknown), vMap("a", vUnknown), deepLists(4, vUnknown), deepUnknown(), vList(vInt(1), vInt(2), vUnknown), vMap("a b", vInt(1), vList(vNull, vUnknown))}))
	if len(known) < 300 || len(others) < 100 {
		t.Error(len(known), len(others), "the draws tell nothing")
	}
	for _, v := range known {
		e, ok := impl.ExprOf(v)
		if !ok || !alike(e, exprOfByRule(v)) || string(impl.ExprText(e)) != textByRule(v) {
			t.Error(textByRule(v))
		}
	}
	for _, v := range others {
		if e, ok := impl.ExprOf(v); ok || !alike(e, impl.Expr{}) {
			t.Error(textByRule(v))
		}
	}
	for why, v := range badValues() {
		if e, ok := impl.ExprOf(v); ok || !alike(e, impl.Expr{}) {
			t.Error(why)
		}
	}
}

func TestSimplify(t *testing.T) {
	for _, c := range [][2]string{
		// What can be reckoned whole.
		{"1", "1"}, {"null", "null"}, {"true", "true"}, {`"a"`, `"a"`}, {"-3", "-3"}, {"--3", "3"}, {"-0", "0"}, {"1 + 2 * 3", "7"}, {"1 - 3", "-2"}, {"!(1 == 1)", "false"}, {"1 < 2 ? \"y\" : 1 + true", `"y"`}, {"len([1, 2])", "2"}, {`cat("a", "b")`, `"ab"`}, {"[1, 2 + 3][1]", "5"}, {"{a = 1 + 1}.a", "2"}, {`{a = null}["a"]`, "null"}, {"true || foo()", "true"}, {"false && (1 + true)", "false"}, {"[1] == [1]", "true"}, {`keys({a = 1})[0]`, `"a"`}, {"min(3, -4)", "-4"}, {"[[], {}] == [[], {}]", "true"}, {"vals({a = -5})[0]", "-5"},
		// A list or a map stays, with each kid likewise.
		{"[]", "[]"}, {"{}", "{}"}, {"[1 + 2]", "[3]"}, {"{a = 1 + 2, b = [3 * 4, []]}", "{a = 3, b = [12, []]}"}, {"keys({a = 1 + 1})", "keys({a = 2})"}, {"vals({a = 1 + 1, b = {}})", "vals({a = 2, b = {}})"}, {"true ? [1 + 1] : 2 + 3", "true ? [2] : 5"}, {"[[1 + 1]][1 - 1]", "[[2]][0]"}, {"{a = {b = 1 + 1}}.a", "{a = {b = 2}}.a"},
		// A part that is not there yet, and what stands beside it.
		{"$a", "$a"}, {"$a + (1 + 2 * 3)", "$a + 7"}, {"1 + 2 + $a", "3 + $a"}, {"1 + $a + 2", "(1 + $a) + 2"}, {"a.b + (1 + 2)", "a.b + 3"}, {"index * (2 - 3)", "index * -1"}, {"key == cat(\"a\", \"b\")", `key == "ab"`}, {"val[1 + 1]", "val[2]"}, {"[1 + 1, $a, 2 * 2]", "[2, $a, 4]"}, {"{a = index, b = 1 + 1}", "{a = index, b = 2}"}, {"f($a, 1 + 1, f(2))", "f($a, 2, f(2))"}, {"$a ? 1 + 1 : 2 + 2", "$a ? 2 : 4"}, {"true ? 1 + 1 : $a", "true ? 2 : $a"}, {"false && $a", "false && $a"}, {"1 == 1 || web", "true || web"}, {"!$a", "!$a"}, {"-(-index)", "--index"}, {"(1 + 1)[key]", "2[key]"}, {"[1, 2][index + (1 + 1)]", "[1, 2][index + 2]"}, {"-(1 + 2) + $a", "-3 + $a"}, {"len([$a])", "len([$a])"}, {"web[1 - 2].id", "web[-1].id"},
		// What has no value stays, with each kid likewise.
		{"1 + true", "1 + true"}, {"(1 + 2) + true", "3 + true"}, {"1 + 2 + true + (3 + 4)", "(3 + true) + 7"}, {"[1 + 1][2 * 1]", "[2][2]"}, {"{a = 1 + 1}.b", "{a = 2}.b"}, {"foo(1 + 1)", "foo(2)"}, {"len(1 + 1)", "len(2)"}, {"1000000000000 + (1 + 0)", "1000000000000 + 1"}, {"[[[[[[1 + 1]]]]]]", "[[[[[[2]]]]]]"}, {"!(1 + 1)", "!2"}, {"1 + 1 ? 2 + 2 : 3 + 3", "2 ? 4 : 6"}, {"true && 1 + 1", "true && 2"},
	} {
		e, ok := impl.Simplify(exprFrom(c[0]))
		if got := string(impl.ExprText(e)); !ok || got != c[1] {
			t.Errorf("%s becomes %s, %t, wanted %s", c[0], got, ok, c[1])
		}
	}
	eachBadExpr(func(why string, e impl.Expr) {
		if got, ok := impl.Simplify(e); ok || !alike(got, impl.Expr{}) {
			t.Error(why)
		}
	})
	// More than a function can be given, and more than a value can have.
	for _, e := range []impl.Expr{eSays(impl.ExCall, "len", wideExpr(60).Kids...), wideExpr(150), wideExprMap(150)} {
		if got, ok := impl.Simplify(e); !ok || !alike(got, e) {
			t.Error(exprTextByRule(got), ok)
		}
	}
}

func TestDrawnSimplifications(t *testing.T) {
	d, less, more := draw(31), 0, 0
	for _, e := range slices.Concat(goodExprs(), drawnExprs(2000), drawnSense(4000)) {
		if d.upTo(2) == 0 {
			e = eOf(impl.ExList, closed(e), e)
		}
		if !wholeByRule(e) {
			continue
		}
		got, ok := impl.Simplify(e)
		if !ok || !alike(got, simplifiedByRule(e)) {
			t.Fatal(exprTextByRule(e), exprTextByRule(got))
		}
		if !impl.ExprOk(got) || exprParts(got) > exprParts(e) || exprDepth(got) > exprDepth(e) {
			t.Error(exprTextByRule(e), "becomes greater")
		}
		if again, _ := impl.Simplify(got); !alike(again, got) {
			t.Error(exprTextByRule(e), "is not simple at once")
		}
		if alike(got, e) {
			more++
		} else {
			less++
		}
	}
	if less < 1000 || more < 500 {
		t.Error(less, more, "the draws tell nothing")
	}
}

// closed is e with numbers for all that an environment would tell.
func closed(e impl.Expr) impl.Expr {
	switch e.Kind {
	case impl.ExLocal, impl.ExRes, impl.ExIndex, impl.ExKey, impl.ExVal:
		return eInt(len(e.S))
	}
	kids := slices.Clone(e.Kids)
	for i, kid := range kids {
		kids[i] = closed(kid)
	}
	e.Kids = kids
	return e
}
