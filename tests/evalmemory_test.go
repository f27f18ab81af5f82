package tests

import (
	"slices"
	"strconv"
	"testing"

	"loop.example/g00407/impl"
)

// evalCase is what the functions of the chapter are given.
type evalCase struct {
	E        impl.Expr
	V        impl.Env
	Name     []byte
	L        []impl.Value
	From, To []byte
}

func looseEnv(v impl.Env) impl.Env {
	return impl.Env{Locals: loose(v.Locals), Res: loose(v.Res), Index: loose(v.Index), Key: loose(v.Key), Val: loose(v.Val)}
}

func looseCase(c evalCase) evalCase {
	var l []impl.Value
	for _, v := range c.L {
		l = append(l, loose(v))
	}
	return evalCase{looseExpr(c.E), looseEnv(c.V), roomyOf(c.Name, 's'), roomyOf(l, vInt(1)), roomyOf(c.From, 'a'), roomyOf(c.To, 'b')}
}

// evalAnswers are all that the functions of the chapter say of these.
func evalAnswers(c evalCase) map[string][]any {
	out := map[string][]any{}
	out["EnvOk"] = []any{impl.EnvOk(c.V)}
	x, code := impl.Eval(c.E, c.V)
	out["Eval"] = []any{x, code}
	x, code = impl.Call(c.Name, c.L)
	out["Call"] = []any{x, code}
	out["ExprParts"] = []any{impl.ExprParts(c.E)}
	e, ok := impl.Rename(c.E, c.From, c.To)
	out["Rename"] = []any{e, ok}
	e, ok = impl.ExprOf(c.V.Val)
	out["ExprOf"] = []any{e, ok}
	e, ok = impl.Simplify(c.E)
	out["Simplify"] = []any{e, ok}
	return out
}

// eachEvalCase calls with cases of which all, some or none may be.
func eachEvalCase(call func(c evalCase)) {
	d := draw(41)
	exprs := slices.Concat(goodExprs(), drawnSense(300), drawnExprs(60))
	for _, text := range []string{"val", "$l", "web", "[val, val, $l, $l]", "{a = val, b = val}", "$l[0]", "keys(web)", "vals(web)", `"abc"`, `cat("a", "b")`, "$u", "[$t, $t, $s]", "true ? val : $l", "web.a", `{a = "x", b = ["x"]}`} {
		exprs = append(exprs, exprFrom(text))
	}
	for _, e := range drawnExprs(40) {
		exprs = append(exprs, d.meddledExpr(e))
	}
	values := append(goodValues(), vInt(impl.MaxInt+1), vText("\n"), vList(impl.Value{Kind: 9}), wide(41), deepLists(6))
	names := []string{"len", "cat", "keys", "vals", "has", "min", "max", "foo", "", "le", "ke"}
	locals := []string{"l", "s", "u", "a", "none", "", "A", "abcdefghi", "abcdefgh"}
	envs := drawnEnvs(40)
	for i, e := range exprs {
		v := envs[i%len(envs)]
		if i%3 == 0 {
			v.Val = values[i%len(values)]
		}
		if i%17 == 0 {
			v.Locals = vUnknown
		}
		c := evalCase{E: e, V: v, Name: []byte(names[i%len(names)]), From: []byte(locals[i%9]), To: []byte(locals[i/9%9])}
		for range d.upTo(4) {
			if d.upTo(2) == 0 {
				c.L = append(c.L, d.of("sM"[d.upTo(2)]))
			} else {
				c.L = append(c.L, values[d.upTo(len(values))])
			}
		}
		call(c)
	}
}

func TestEvalConventions(t *testing.T) {
	eachEvalCase(func(c evalCase) {
		what := " of " + strconv.Quote(string(impl.ExprText(c.E))) + ", " + string(c.Name) + ", " + strconv.Itoa(len(c.L))
		plainly := evalAnswers(c)
		wideCase := looseCase(c)
		var answers map[string][]any
		stays(t, what, wideCase, func() { answers = evalAnswers(wideCase) })
		for name, answer := range answers {
			newMemory(t, name+what, answer, []any{wideCase})
			for i := range answer {
				if !alike(answer[i], plainly[name][i]) {
					t.Errorf("%s%s: the room behind a list plays a part", name, what)
				}
			}
		}
	})
}

// TestBesideACode: beside a code that refuses, and beside a false, is the zero value.
func TestBesideACode(t *testing.T) {
	refused := map[string]int{}
	eachEvalCase(func(c evalCase) {
		for name, answer := range evalAnswers(c) {
			if len(answer) < 2 || answer[1] == impl.EvWell || answer[1] == true {
				continue
			}
			refused[name]++
			if !alike(answer[0], impl.Value{}) && !alike(answer[0], impl.Expr{}) {
				t.Error(name, answer)
			}
		}
	})
	for _, name := range []string{"Eval", "Call", "Rename", "ExprOf", "Simplify"} {
		if refused[name] < 5 {
			t.Error(name, refused[name], "the cases tell nothing")
		}
	}
}

// TestAnswersMayBe: what is answered is ValOk or ExprOk itself.
func TestAnswersMayBe(t *testing.T) {
	eachEvalCase(func(c evalCase) {
		for name, answer := range evalAnswers(c) {
			switch x := answer[0].(type) {
			case impl.Value:
				if !impl.ValOk(x) {
					t.Error(name, x)
				}
			case impl.Expr:
				if !impl.ExprOk(x) {
					t.Error(name, x)
				}
			}
		}
	})
}

// TestEvalHangsOnNothingElse asks for the same again and again, with others between, and writes into each answer.
func TestEvalHangsOnNothingElse(t *testing.T) {
	mine := evalCase{E: exprFrom(`[$m, vals($m), keys($m), cat("a", "b"), $a, $l][index - 1]`), V: someEnv(), Name: []byte("vals"), L: []impl.Value{vMap("a b", vText("x"), vList(vText("y")))}, From: []byte("m"), To: []byte("mm")}
	mine.V.Locals, _ = impl.ValSet(mine.V.Locals, []byte("a"), vText("z"))
	mine.V.Val = vMap("a", vList(vText("t")))
	want := evalAnswers(mine)
	eachEvalCase(func(other evalCase) {
		evalAnswers(other)
		for name, answer := range evalAnswers(mine) {
			for i := range answer {
				if !alike(answer[i], want[name][i]) {
					t.Fatal(name, answer)
				}
			}
			overwrite(answer[0])
		}
	})
}

// overwrite writes into all lists of an answer.
func overwrite(answer any) {
	switch x := answer.(type) {
	case impl.Value:
		for i := range x.L {
			overwrite(x.L[i])
			x.L[i] = vInt(99)
		}
		overwriteTexts(append(x.K, x.S))
	case impl.Expr:
		for i := range x.Kids {
			overwrite(x.Kids[i])
			x.Kids[i] = eInt(99)
		}
		overwriteTexts(append(x.K, x.S))
	}
}

func overwriteTexts(l [][]byte) {
	for _, text := range l {
		for i := range text {
			text[i] = 'q'
		}
	}
}

// TestEvalOfEmptyLists: an empty list and nil are the same.
func TestEvalOfEmptyLists(t *testing.T) {
	full := func(kind int) impl.Value {
		return impl.Value{Kind: kind, S: []byte{}, K: [][]byte{}, L: []impl.Value{}}
	}
	v := impl.Env{Locals: full(impl.VkMap), Res: full(impl.VkMap), Index: full(impl.VkNull), Key: full(impl.VkText), Val: full(impl.VkList)}
	if !impl.EnvOk(v) {
		t.Error("not EnvOk")
	}
	evaluate(t, v, [][2]string{{"key", `""`}, {"val == []", "true"}, {`key == ""`, "true"}, {"len(val)", "0"}, {"index", "null"}, {"$a", "lack"}})
	e := impl.Expr{Kind: impl.ExList, S: []byte{}, K: [][]byte{}, Kids: []impl.Expr{{Kind: impl.ExText, S: []byte{}, K: [][]byte{}, Kids: []impl.Expr{}}}}
	if got := answerText(impl.Eval(e, v)); got != `[""]` {
		t.Error(got)
	}
	if x, ok := impl.Simplify(e); !ok || !alike(x, e) {
		t.Error(x)
	}
	if x, ok := impl.ExprOf(full(impl.VkMap)); !ok || !alike(x, eMap("")) {
		t.Error(x)
	}
	if got := answerText(impl.Call([]byte("cat"), []impl.Value{full(impl.VkText), vText("")})); got != `""` {
		t.Error(got)
	}
}

// TestEvalOfSharedLists: parts of the arguments may share memory, and those of the answers do not.
func TestEvalOfSharedLists(t *testing.T) {
	name := []byte("a")
	text := impl.Value{Kind: impl.VkText, S: name}
	m := impl.Value{Kind: impl.VkMap, K: [][]byte{name}, L: []impl.Value{text}}
	v := impl.Env{Locals: m, Res: m, Index: text, Key: m, Val: vList(m, m, text)}
	one := impl.Expr{Kind: impl.ExLocal, S: name}
	e := impl.Expr{Kind: impl.ExList, Kids: []impl.Expr{one, one, {Kind: impl.ExRes, S: name}, eKey, eKey, eVal, {Kind: impl.ExMap, K: [][]byte{name}, Kids: []impl.Expr{{Kind: impl.ExText, S: name}}}}}
	c := evalCase{E: e, V: v, Name: []byte("cat"), L: []impl.Value{text, text}, From: name, To: name}
	stays(t, "shared lists", c, func() {
		for what, answer := range evalAnswers(c) {
			newMemory(t, what, answer, []any{c})
		}
	})
	if got := answerText(impl.Eval(e, v)); got != `["a", "a", "a", {a = "a"}, {a = "a"}, [{a = "a"}, {a = "a"}, "a"], {a = "a"}]` {
		t.Error(got)
	}
	if x, ok := impl.Rename(e, name, name); !ok || !alike(x, e) {
		t.Error(ok)
	}
}
