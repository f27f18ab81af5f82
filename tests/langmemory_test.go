package tests

import (
	"slices"
	"strconv"
	"testing"

	"loop.example/g00407/impl"
)

// looseExpr copies e with marked room behind each of its lists.
func looseExpr(e impl.Expr) impl.Expr {
	out := impl.Expr{Kind: e.Kind, N: e.N, S: roomyOf(e.S, 'q')}
	for _, key := range e.K {
		out.K = append(out.K, roomyOf(key, 'q'))
	}
	out.K = roomyOf(out.K, []byte("zz"))
	for _, kid := range e.Kids {
		out.Kids = append(out.Kids, looseExpr(kid))
	}
	out.Kids = roomyOf(out.Kids, eRes("behind"))
	return out
}

func looseItems(l []impl.Item) []impl.Item {
	var out []impl.Item
	for _, x := range l {
		y := impl.Item{Kind: x.Kind, Name: roomyOf(x.Name, 'q'), Many: x.Many, By: looseExpr(x.By)}
		for _, name := range x.Names {
			y.Names = append(y.Names, roomyOf(name, 'q'))
		}
		y.Names = roomyOf(y.Names, []byte("zz"))
		for _, e := range x.Exprs {
			y.Exprs = append(y.Exprs, looseExpr(e))
		}
		y.Exprs = roomyOf(y.Exprs, eLocal("behind"))
		out = append(out, y)
	}
	return roomyOf(out, itLocal("behind", eNull))
}

// langAnswers are all that the functions of the language say of these.
func langAnswers(e impl.Expr, l []impl.Item, b []byte) map[string][]any {
	out := map[string][]any{}
	tell := func(name string, answers ...any) { out[name] = answers }
	tell("ExprOk", impl.ExprOk(e))
	tell("ExprText", impl.ExprText(e))
	tell("Uses", impl.Uses(e))
	tell("Locals", impl.Locals(e))
	tell("ConfigOk", impl.ConfigOk(l))
	tell("ConfigText", impl.ConfigText(l))
	x, code, at := impl.ExprRead(b)
	tell("ExprRead", x, code, at)
	m, code, at := impl.ConfigRead(b)
	tell("ConfigRead", m, code, at)
	return out
}

// eachLangCase calls with an expression, a configuration and a source, of which all, some or none may be.
func eachLangCase(call func(e impl.Expr, l []impl.Item, b []byte)) {
	d := draw(23)
	exprs := append(goodExprs(), drawnExprs(60)...)
	for _, e := range drawnExprs(60) {
		exprs = append(exprs, d.meddledExpr(e))
	}
	configs := append(drawnConfigs(60), fullConfigs()...)
	for _, c := range goodConfigs {
		configs = append(configs, c.l)
	}
	for why, l := range badConfigs() {
		if len(l) < 3 && len(why)%9 == 0 && !slices.ContainsFunc(l, endless) {
			configs = append(configs, l)
		}
	}
	sources := slices.Concat(drawnSources(80), drawnConfigSources(80), []string{"", " ", "ab", "1", `"a`, "a =", "local a = b", "res a { b = c", "&", "0", "a.b", "res a count b"})
	for i := range max(len(exprs), len(configs), len(sources)) {
		call(exprs[i%len(exprs)], configs[i%len(configs)], []byte(sources[i%len(sources)]))
	}
}

// endless tells whether an item goes too deep to be copied.
func endless(x impl.Item) bool {
	var deep func(e impl.Expr, depth int) bool
	deep = func(e impl.Expr, depth int) bool {
		return depth > 20 || len(e.Kids) > 200 || slices.ContainsFunc(e.Kids, func(kid impl.Expr) bool { return deep(kid, depth+1) })
	}
	return deep(x.By, 1) || slices.ContainsFunc(x.Exprs, func(e impl.Expr) bool { return deep(e, 1) })
}

func TestLanguageConventions(t *testing.T) {
	eachLangCase(func(e impl.Expr, l []impl.Item, b []byte) {
		what := " of " + strconv.Quote(string(b)) + ", " + strconv.Itoa(e.Kind) + ", " + strconv.Itoa(len(l))
		plainly := langAnswers(e, l, b)
		wideE, wideL := looseExpr(e), looseItems(l)
		for _, behind := range []byte("q 1\"=}") {
			wideB := roomyOf(b, behind)
			given := []any{wideE, wideL, wideB}
			var answers map[string][]any
			stays(t, what, struct {
				E impl.Expr
				L []impl.Item
				B []byte
			}{wideE, wideL, wideB}, func() { answers = langAnswers(wideE, wideL, wideB) })
			for name, answer := range answers {
				newMemory(t, name+what, answer, given)
				for i := range answer {
					if !alike(answer[i], plainly[name][i]) {
						t.Errorf("%s%s: the room behind a list plays a part", name, what)
					}
				}
			}
		}
	})
}

// TestReadNamesAreNewMemory: what is written into an answer changes neither the source nor another part of the answer.
func TestReadNamesAreNewMemory(t *testing.T) {
	b := []byte(`res a each {a = a, b = "a"} { a = [a, a, $a, a.a, a(a), ""] b = {a = a} }`)
	was := string(b)
	l, code, _ := impl.ConfigRead(b)
	if code != impl.RdWell {
		t.Fatal(code)
	}
	text := string(impl.ConfigText(l))
	l[0].Name[0] = 'x'
	l[0].Exprs[0].Kids[0].S[0] = 'y'
	l[0].By.K[0][0] = 'z'
	l[0].Exprs[0].Kids = append(l[0].Exprs[0].Kids, eNull)
	if string(b) != was {
		t.Error(string(b))
	}
	again, _, _ := impl.ConfigRead(b)
	if string(impl.ConfigText(again)) != text {
		t.Error("an answer was kept")
	}
	e, _, _ := impl.ExprRead([]byte("[a, b, a]"))
	names := impl.Uses(e)
	names[0][0] = 'z'
	if string(impl.ExprText(e)) != "[a, b, a]" || texts(impl.Uses(e)) != texts(keysOf("a b")) {
		t.Error("a name is shared")
	}
}

// TestSharedExprsMayBe: parts of the arguments may share memory.
func TestSharedExprsMayBe(t *testing.T) {
	name := []byte("a")
	one := impl.Expr{Kind: impl.ExRes, S: name}
	two := eOf(impl.ExAdd, one, one)
	all := impl.Expr{Kind: impl.ExList, Kids: []impl.Expr{two, two, {Kind: impl.ExMap, K: [][]byte{name}, Kids: two.Kids[:1]}, {Kind: impl.ExLocal, S: name}}}
	if got := string(impl.ExprText(all)); got != "[a + a, a + a, {a = a}, $a]" {
		t.Error(got)
	}
	newMemory(t, "Uses and Locals", []any{impl.Uses(all), impl.Locals(all), impl.ExprText(all)}, []any{all})
}

// TestEmptyAndNilExprs: an empty list and nil are the same.
func TestEmptyAndNilExprs(t *testing.T) {
	full := impl.Expr{S: []byte{}, K: [][]byte{}, Kids: []impl.Expr{}}
	for _, c := range oneOfEach {
		e, x := c.e, c.e
		if len(e.S) == 0 {
			x.S = full.S
		}
		if len(e.K) == 0 {
			x.K = full.K
		}
		if len(e.Kids) == 0 {
			x.Kids = full.Kids
		}
		if !impl.ExprOk(x) || string(impl.ExprText(x)) != c.text {
			t.Error(c.text)
		}
	}
	empty := impl.Item{Kind: impl.ItRes, Name: []byte("a"), By: full, Names: [][]byte{}, Exprs: []impl.Expr{}}
	if got := string(impl.ConfigText([]impl.Item{empty, {Kind: impl.ItLocal, Name: []byte("a"), By: full, Names: [][]byte{}, Exprs: []impl.Expr{full}}})); got != "res a { }\nlocal a = null\n" {
		t.Error(got)
	}
	if !impl.ConfigOk([]impl.Item{}) || !impl.ConfigOk(nil) || len(impl.ConfigText([]impl.Item{})) != 0 {
		t.Error("no items")
	}
	if l, code, at := impl.ConfigRead([]byte{}); len(l) != 0 || code != impl.RdWell || at != 0 {
		t.Error(l, code, at)
	}
	if _, code, at := impl.ExprRead([]byte{}); code != impl.RdForm || at != 0 {
		t.Error(code, at)
	}
}

// TestTheLanguageHangsOnNothingElse asks for the same again and again, with others between.
func TestTheLanguageHangsOnNothingElse(t *testing.T) {
	e := eOf(impl.ExList, eRes("b"), eRes("a"), eLocal("b"), eLocal("a"))
	l := []impl.Item{itLocal("a", e), itRes("b", "a", e)}
	source := []byte("local a = [!!!!!!!!!!1, 2]\nres b { }")
	want := langAnswers(e, l, source)
	eachLangCase(func(other impl.Expr, m []impl.Item, b []byte) {
		langAnswers(other, m, b)
		for name, answer := range langAnswers(e, l, source) {
			for i := range answer {
				if !alike(answer[i], want[name][i]) {
					t.Fatal(name, answer)
				}
			}
		}
	})
}
