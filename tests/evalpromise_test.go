package tests

import (
	"bytes"
	"slices"
	"strings"
	"testing"

	"loop.example/g00407/impl"
)

// turnsOutAs tells whether v can turn out to be x: where v is known, x is alike.
func turnsOutAs(v impl.Value, x impl.Value) bool {
	if v.Kind == impl.VkUnknown {
		return true
	}
	if v.Kind != x.Kind || v.N != x.N || !bytes.Equal(v.S, x.S) || texts(v.K) != texts(x.K) || len(v.L) != len(x.L) {
		return false
	}
	for i := range v.L {
		if !turnsOutAs(v.L[i], x.L[i]) {
			return false
		}
	}
	return true
}

// TestWhatIsKnownStays: what an expression is while something is unknown, it is whatever that turns out to be, or it has no value then.
func TestWhatIsKnownStays(t *testing.T) {
	d, known, inPart, gone := draw(101), 0, 0, 0
	for _, e := range drawnSense(12000) {
		whole := d.env()
		veiled := d.veiledEnv(whole)
		now, code := impl.Eval(e, veiled)
		if code != impl.EvWell {
			continue
		}
		then, code := impl.Eval(e, whole)
		if code != impl.EvWell {
			gone++
			continue
		}
		if !turnsOutAs(now, then) {
			t.Fatalf("%s was %s, and is %s", impl.ExprText(e), impl.ValText(now), impl.ValText(then))
		}
		if impl.ValKnown(now) && !alike(veiled, whole) {
			known++
		} else if now.Kind != impl.VkUnknown {
			inPart++
		}
	}
	if known < 1000 || inPart < 100 || gone < 50 {
		t.Error(known, inPart, gone, "the draws tell nothing")
	}
}

// TestKnownThoughUnknown: expressions that are known ahead of what they use, with all that it may turn out to be.
func TestKnownThoughUnknown(t *testing.T) {
	of := func(v impl.Value) impl.Env {
		return impl.Env{Locals: vMap("u", v), Res: vMap("web", vMap("id", v)), Val: vList(v, v)}
	}
	turnsOut := append(goodValues(), drawnValues(100)...)
	for _, c := range [][2]string{
		{"$u && false", "false"}, {"false && $u", "false"}, {"$u || true", "true"}, {"true || $u", "true"}, {"web.id == 1 && false", "false"}, {"len([$u, 1])", "2"}, {"len(val)", "2"}, {"[$u, 1][1]", "1"}, {"{a = $u, b = 2}.b", "2"}, {`has(web, "id")`, "true"}, {`has(web, "size")`, "false"}, {"keys(web)", `["id"]`}, {"true ? 1 : $u", "1"}, {"false ? $u : 2", "2"}, {"len(vals(web))", "1"}, {"($u && false) == false", "true"},
	} {
		e := exprFrom(c[0])
		if got := answerText(impl.Eval(e, of(vUnknown))); got != c[1] {
			t.Errorf("%s is %s, wanted %s", c[0], got, c[1])
		}
		for _, v := range turnsOut {
			if env := of(v); impl.EnvOk(env) {
				if x, code := impl.Eval(e, env); code == impl.EvWell && string(impl.ValText(x)) != c[1] {
					t.Errorf("%s is %s, of %s", c[0], impl.ValText(x), impl.ValText(v))
				}
			}
		}
	}
	// And what is not known, though it may look so.
	for _, text := range []string{"$u == $u", "[$u] == [$u]", "[$u, 1] == [$u, 2]", "$u * 0", "0 * $u", "$u - $u", "$u && !$u", "$u || !$u", "$u ? 1 : 1", "min($u, -1000000000000)", "has({}, $u)", "$u < -1000000000000", "[][$u]", "{}[$u]", "len($u)", "!$u", "-$u"} {
		if got := answerText(impl.Eval(exprFrom(text), of(vUnknown))); got != "?" {
			t.Errorf("%s is %s", text, got)
		}
	}
}

// TestNotOfBoth: not of both is the one or the other not; and the other way round.
func TestNotOfBoth(t *testing.T) {
	same := func(a impl.Expr, b impl.Expr, v impl.Env) {
		t.Helper()
		if x, y := answerText(impl.Eval(a, v)), answerText(impl.Eval(b, v)); x != y {
			t.Errorf("%s is %s, %s is %s", impl.ExprText(a), x, impl.ExprText(b), y)
		}
	}
	not := func(e impl.Expr) impl.Expr { return eOf(impl.ExNot, e) }
	both := func(a impl.Expr, b impl.Expr, v impl.Env) {
		t.Helper()
		same(not(eOf(impl.ExAnd, a, b)), eOf(impl.ExOr, not(a), not(b)), v)
		same(not(eOf(impl.ExOr, a, b)), eOf(impl.ExAnd, not(a), not(b)), v)
	}
	names := append(slices.Clone(localsOfEach), "$none", "foo()", "1 + true", "1000000000000 * 2")
	for _, a := range names {
		for _, b := range names {
			both(exprFrom(a), exprFrom(b), someEnv())
		}
	}
	exprs, envs := drawnSense(4000), drawnEnvs(200)
	for i := range len(exprs) - 1 {
		if exprDepth(exprs[i]) < 8 && exprDepth(exprs[i+1]) < 8 && exprParts(exprs[i])+exprParts(exprs[i+1]) < 140 {
			both(exprs[i], exprs[i+1], envs[i%len(envs)])
		}
	}
}

// TestOrderOfParts: sums and products do not hang on it. Where both parts have no value, the first tells why.
func TestOrderOfParts(t *testing.T) {
	check := func(a impl.Expr, b impl.Expr, v impl.Env) {
		t.Helper()
		_, first := impl.Eval(a, v)
		_, second := impl.Eval(b, v)
		for _, kind := range []int{impl.ExAdd, impl.ExMul} {
			x, code := impl.Eval(eOf(kind, a, b), v)
			y, other := impl.Eval(eOf(kind, b, a), v)
			if first != impl.EvWell && second != impl.EvWell {
				if code != first || other != second {
					t.Error(kind, string(impl.ExprText(a)), string(impl.ExprText(b)))
				}
				continue
			}
			if code != other || !alike(x, y) {
				t.Error(kind, string(impl.ExprText(a)), string(impl.ExprText(b)))
			}
		}
	}
	names := append(slices.Clone(localsOfEach), "$none", "foo()", "1000000", "1000001", "-1000000", "1000000000000", "-1000000000000", "0", "-1")
	for _, a := range names {
		for _, b := range names {
			check(exprFrom(a), exprFrom(b), someEnv())
		}
	}
	d := draw(8)
	for range 3000 {
		check(d.sense(4, 'i'), d.sense(4, 'i'), d.veiledEnv(d.env()))
	}
}

// TestFunctionsAreWhatTheyAreCalled: in an expression a function is what Call makes of the kids' values.
func TestFunctionsAreWhatTheyAreCalled(t *testing.T) {
	d, well := draw(77), 0
	names := []string{"len", "cat", "keys", "vals", "has", "min", "max", "foo"}
	for range 6000 {
		name := names[d.upTo(8)]
		l := []impl.Value{d.of("?sLMi"[d.upTo(5)]), d.of("?si"[d.upTo(3)])}[:1+d.upTo(2)]
		v := impl.Env{Locals: vMap(""), Res: vMap("")}
		e := eSays(impl.ExCall, name)
		for i := range l {
			l[i] = d.veiledWithin(l[i])
			v.Locals.K = append(v.Locals.K, []byte{'a' + byte(i)})
			v.Locals.L = append(v.Locals.L, l[i])
			e.Kids = append(e.Kids, eLocal(string([]byte{'a' + byte(i)})))
		}
		x, code := impl.Call([]byte(name), l)
		if y, told := impl.Eval(e, v); code != told || !alike(x, y) {
			t.Fatal(name, lettersOf(l))
		}
		if code == impl.EvWell {
			well++
		}
	}
	if well < 300 {
		t.Error(well, "the draws tell nothing")
	}
}

// TestSimplifiedValues: what is simplified has the value that it had, or lacks it for the same reason.
func TestSimplifiedValues(t *testing.T) {
	envs := drawnEnvs(300)
	for i, e := range slices.Concat(drawnSense(6000), drawnExprs(1500), goodExprs()) {
		simple, ok := impl.Simplify(e)
		if !ok {
			t.Fatal(exprTextByRule(e))
		}
		for _, v := range []impl.Env{envs[i%len(envs)], envs[(i+1)%len(envs)], someEnv(), {Locals: vMap(""), Res: vMap("")}} {
			if was, is := answerText(impl.Eval(e, v)), answerText(impl.Eval(simple, v)); was != is {
				t.Fatalf("%s is %s, but %s is %s", impl.ExprText(e), was, impl.ExprText(simple), is)
			}
		}
	}
}

// TestRenamedValues: what is renamed has the value that it had, in an environment that has the other name.
func TestRenamedValues(t *testing.T) {
	names := strings.Fields(localNames)
	envs := drawnEnvs(300)
	d := draw(55)
	for i, e := range drawnSense(6000) {
		from, to := []byte(names[d.upTo(len(names))]), []byte([]string{"a", "zz", "null", "web"}[d.upTo(4)])
		other, ok := impl.Rename(e, from, to)
		if !ok {
			t.Fatal(exprTextByRule(e))
		}
		v := envs[i%len(envs)]
		w := v
		if x, there := impl.ValGet(v.Locals, from); there {
			w.Locals, _ = impl.ValDrop(v.Locals, from)
			w.Locals, _ = impl.ValSet(w.Locals, to, x)
		}
		if was, is := answerText(impl.Eval(e, v)), answerText(impl.Eval(other, w)); was != is {
			t.Fatalf("%s is %s, but %s is %s", impl.ExprText(e), was, impl.ExprText(other), is)
		}
	}
}

// TestValuesAsExpressions: a known value, as an expression, is itself, whatever else there is.
func TestValuesAsExpressions(t *testing.T) {
	known, _ := knownIn(append(goodValues(), drawnValues(1500)...))
	for i, v := range known {
		e, ok := impl.ExprOf(v)
		if !ok || !impl.ExprOk(e) {
			t.Fatal(textByRule(v))
		}
		for _, env := range []impl.Env{someEnv(), drawnEnvs(20)[i%20]} {
			if x, code := impl.Eval(e, env); code != impl.EvWell || !alike(x, v) {
				t.Error(textByRule(v), code)
			}
		}
		if simple, _ := impl.Simplify(e); !alike(simple, e) {
			t.Error(textByRule(v), "can be simpler")
		}
	}
}
