package tests

import (
	"slices"
	"strings"
	"testing"

	"loop.example/g00407/impl"
)

// callFrom calls with values that are written as an expression's kids; $ and a letter are the locals of someEnv.
func callFrom(t *testing.T, name string, args string) (impl.Value, int) {
	t.Helper()
	var l []impl.Value
	for _, kid := range exprFrom("f(" + args + ")").Kids {
		v, code := impl.Eval(kid, someEnv())
		if code != impl.EvWell {
			t.Fatal(args, code)
		}
		l = append(l, v)
	}
	return impl.Call([]byte(name), l)
}

// calls fails where a function is not what the table says.
func calls(t *testing.T, name string, table [][2]string) {
	t.Helper()
	for _, c := range table {
		if got := answerText(callFrom(t, name, c[0])); got != c[1] {
			t.Errorf("%s(%s) is %s, wanted %s", name, c[0], got, c[1])
		}
	}
}

func TestLen(t *testing.T) {
	calls(t, "len", [][2]string{
		{`""`, "0"}, {`"a"`, "1"}, {`"a b\"\\"`, "5"}, {`"01234567890123456789"`, "20"},
		{"[]", "0"}, {"[1]", "1"}, {"[1, [2, 3], []]", "3"}, {"$lu", "2"}, {"[$u]", "1"},
		{"{}", "0"}, {"{a = 1}", "1"}, {"{a = {b = 1, c = 2}, d = null}", "2"}, {"$mu", "2"},
		{"$u", "?"}, {"null", "type"}, {"true", "type"}, {"false", "type"}, {"0", "type"}, {"5", "type"},
		{"", "word"}, {"1, 2", "word"}, {"[], []", "word"}, {"$u, $u", "word"},
	})
	for _, v := range []impl.Value{wide(40), wideMap(40)} {
		if x, code := impl.Call([]byte("len"), []impl.Value{v}); code != impl.EvWell || x.N != 39 {
			t.Error(x, code)
		}
	}
}

func TestCat(t *testing.T) {
	calls(t, "cat", [][2]string{
		{`"", ""`, `""`}, {`"a", ""`, `"a"`}, {`"", "a"`, `"a"`}, {`"a", "b"`, `"ab"`}, {`"b", "a"`, `"ba"`}, {`"\"", "\\"`, `"\"\\"`},
		{`"0123456789", "abcdefghij"`, `"0123456789abcdefghij"`}, {`"01234567890123456789", ""`, `"01234567890123456789"`}, {`"", "01234567890123456789"`, `"01234567890123456789"`}, {`"0123456789abcdefghi", "j"`, `"0123456789abcdefghij"`},
		{`"0123456789", "abcdefghijk"`, "over"}, {`"01234567890123456789", "a"`, "over"}, {`"a", "01234567890123456789"`, "over"}, {`"01234567890123456789", "01234567890123456789"`, "over"},
		{`"a", $u`, "?"}, {`$u, "a"`, "?"}, {"$u, $u", "?"}, {`"01234567890123456789", $u`, "?"},
		{`"a", 1`, "type"}, {`1, "a"`, "type"}, {"$u, 1", "type"}, {"null, $u", "type"}, {"$u, true", "type"}, {`"a", []`, "type"}, {`{}, "a"`, "type"}, {`"a", null`, "type"}, {"[], []", "type"}, {"$lu, $u", "type"},
		{"", "word"}, {`"a"`, "word"}, {`"a", "b", "c"`, "word"}, {"$u", "word"}, {"1", "word"},
	})
}

func TestKeysAndVals(t *testing.T) {
	calls(t, "keys", [][2]string{
		{"{}", "[]"}, {"{a = null}", `["a"]`}, {"{a = 1, aa = {z = 1}, b = 3}", `["a", "aa", "b"]`}, {"$mu", `["a", "b"]`}, {"{abcdefgh = 1, null = 2}", `["abcdefgh", "null"]`},
	})
	calls(t, "vals", [][2]string{
		{"{}", "[]"}, {"{a = null}", "[null]"}, {"{a = 3, aa = {z = 1}, b = 2}", "[3, {z = 1}, 2]"}, {"$mu", "[?, 2]"}, {"{a = $u}", "[?]"},
	})
	for _, name := range []string{"keys", "vals"} {
		calls(t, name, [][2]string{
			{"$u", "?"}, {"null", "type"}, {"true", "type"}, {"0", "type"}, {`""`, "type"}, {"[]", "type"}, {"[{}]", "type"}, {"$lu", "type"},
			{"", "word"}, {"{}, {}", "word"}, {"$u, $u", "word"}, {"1, 2", "word"},
		})
		x, code := impl.Call([]byte(name), []impl.Value{wideMap(40)})
		if code != impl.EvWell || impl.ValParts(x) != 40 {
			t.Error(name, code)
		}
	}
	if x, code := impl.Call([]byte("vals"), []impl.Value{deepMaps(5)}); code != impl.EvWell || impl.ValDeep(x) != 5 {
		t.Error(x, code)
	}
}

func TestHas(t *testing.T) {
	calls(t, "has", [][2]string{
		{`{a = 1}, "a"`, "true"}, {`{a = 1}, "b"`, "false"}, {`{a = 1}, ""`, "false"}, {`{}, "a"`, "false"}, {`{a = null}, "a"`, "true"}, {`$mu, "a"`, "true"}, {`$mu, "c"`, "false"}, {`{a = {b = 1}}, "b"`, "false"}, {`{a = 1, b = 2}, "b"`, "true"}, {`{a = 1}, "A b"`, "false"}, {`{abcdefgh = 1}, "abcdefghi"`, "false"}, {`{ab = 1}, "a"`, "false"},
		{`$u, "a"`, "?"}, {"{}, $u", "?"}, {"{a = 1}, $u", "?"}, {"$u, $u", "?"},
		{"{}, 1", "type"}, {`[], "a"`, "type"}, {`"a", {}`, "type"}, {`null, "a"`, "type"}, {"{}, null", "type"}, {"$u, 1", "type"}, {"$u, {}", "type"}, {"1, $u", "type"}, {"[1], $u", "type"}, {`"a", $u`, "type"}, {"[1], 0", "type"}, {"{}, true", "type"},
		{"", "word"}, {"{}", "word"}, {`{}, "a", "b"`, "word"}, {"$u", "word"},
	})
}

func TestMinAndMax(t *testing.T) {
	calls(t, "min", [][2]string{{"1, 2", "1"}, {"2, 1", "1"}, {"2, 2", "2"}, {"-1, 0", "-1"}, {"0, -1", "-1"}, {"-1, -2", "-2"}, {"1000000000000, -1000000000000", "-1000000000000"}, {"-1000000000000, 1000000000000", "-1000000000000"}, {"0, 0", "0"}})
	calls(t, "max", [][2]string{{"1, 2", "2"}, {"2, 1", "2"}, {"2, 2", "2"}, {"-1, 0", "0"}, {"0, -1", "0"}, {"-1, -2", "-1"}, {"1000000000000, -1000000000000", "1000000000000"}, {"-1000000000000, 1000000000000", "1000000000000"}, {"0, 0", "0"}})
	for _, name := range []string{"min", "max"} {
		calls(t, name, [][2]string{
			{"$u, 1", "?"}, {"1, $u", "?"}, {"$u, $u", "?"}, {"-1000000000000, $u", "?"}, {"$u, 1000000000000", "?"},
			{"1, true", "type"}, {"true, 1", "type"}, {"null, 1", "type"}, {`1, "1"`, "type"}, {"[1], [2]", "type"}, {"{}, 1", "type"}, {"$u, true", "type"}, {"null, $u", "type"}, {`"a", $u`, "type"}, {"$lu, $u", "type"},
			{"", "word"}, {"1", "word"}, {"1, 2, 3", "word"}, {"[1, 2]", "word"}, {"$u", "word"},
		})
	}
}

func TestCallOfWhatMayNotBe(t *testing.T) {
	for why, bad := range badValues() {
		for _, name := range []string{"len", "cat", "foo", "", "min"} {
			for _, l := range [][]impl.Value{{bad}, {bad, vInt(1)}, {vInt(1), bad}, {vUnknown, bad}, {vNull, vNull, bad}, append(make([]impl.Value, 39), bad), append(make([]impl.Value, 90), bad)} {
				if got := answerText(impl.Call([]byte(name), l)); got != "form" {
					t.Error(why, name, len(l), got)
				}
			}
		}
	}
	for number, want := range map[int]string{0: "word", 3: "word", 39: "word", 40: "word", 41: "form", 1000: "form"} {
		for _, name := range []string{"len", "cat", "keys", "vals", "has", "min", "max", "foo", "", "len "} {
			for _, v := range []impl.Value{vNull, vUnknown, vInt(1), wide(40)} {
				if got := answerText(impl.Call([]byte(name), slices.Repeat([]impl.Value{v}, number))); got != want {
					t.Error(name, number, got)
				}
			}
		}
	}
}

func TestCallOfNoFunction(t *testing.T) {
	for _, name := range append([]string{"", "foo", "Len", "LEN", "le", "lens", "len ", " len", "len\x00", "cat\n", "key", "keyss", "val", "value", "ha", "hash", "mi", "mins", "ma", "maxx", "and", "not", "if", "eq", "add", "get", "item", "null", "true", "abcdefghi", strings.Repeat("len", 500), "\xff"}, keptNames...) {
		for _, l := range [][]impl.Value{nil, {}, {vText("a")}, {vInt(1), vInt(2)}, {vUnknown}, {vMap(""), vText("a")}, {vTrue, vInt(1), vInt(2)}} {
			if got := answerText(impl.Call([]byte(name), l)); got != "word" {
				t.Errorf("%q %s", name, got)
			}
		}
	}
	if got := answerText(impl.Call(nil, nil)); got != "word" {
		t.Error(got)
	}
}

// TestEachFunctionWithEach: each function, and one that is none, with values of each kind, up to three.
func TestEachFunctionWithEach(t *testing.T) {
	values := []impl.Value{vNull, vFalse, vTrue, vInt(0), vInt(-3), vText(""), vText("a"), vText("0123456789ab"), vList(), vList(vInt(1), vUnknown), vMap(""), vMap("a b", vUnknown, vInt(1)), vUnknown}
	for _, name := range []string{"len", "cat", "keys", "vals", "has", "min", "max", "foo"} {
		try := func(l ...impl.Value) {
			want := answerText(callByRule(name, l))
			if got := answerText(impl.Call([]byte(name), l)); got != want {
				t.Error(name, lettersOf(l), got, want)
			}
		}
		try()
		for _, a := range values {
			try(a)
			for _, b := range values {
				try(a, b)
				for _, c := range values {
					try(a, b, c)
				}
			}
		}
	}
}

func TestDrawnCalls(t *testing.T) {
	d := draw(11)
	values := append(goodValues(), drawnValues(300)...)
	well := 0
	for range 20000 {
		name := []string{"len", "cat", "keys", "vals", "has", "min", "max", "foo"}[d.upTo(8)]
		var l []impl.Value
		for range 1 + d.upTo(2) {
			if d.upTo(2) == 0 {
				l = append(l, d.of('?'))
			} else {
				l = append(l, values[d.upTo(len(values))])
			}
		}
		want, code := callByRule(name, l)
		if got, told := impl.Call([]byte(name), l); told != code || !alike(got, want) {
			t.Fatal(name, lettersOf(l), textByRule(got), told)
		}
		if code == impl.EvWell {
			well++
		}
	}
	if well < 1000 {
		t.Error(well, "the draws tell nothing")
	}
}
