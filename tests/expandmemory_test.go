package tests

import (
	"slices"
	"strconv"
	"testing"

	"loop.example/g00407/impl"
)

// expandCase is what the functions of the chapter are given.
type expandCase struct {
	L    []impl.Item
	X    impl.Item
	Addr []byte
}

func looseExpandCase(c expandCase) expandCase {
	return expandCase{looseItems(c.L), looseItems([]impl.Item{c.X})[0], roomyOf(c.Addr, ']')}
}

// expandAnswers are all that the functions of the chapter say of these.
func expandAnswers(c expandCase) map[string][]any {
	out := map[string][]any{}
	v, code, item := impl.LocalsOf(c.L)
	out["LocalsOf"] = []any{v, code, item}
	insts, code, item := impl.InstsOf(c.L)
	out["InstsOf"] = []any{insts, code, item}
	out["ItemUses"] = []any{impl.ItemUses(c.X)}
	out["InstNeeds"] = []any{impl.InstNeeds(c.L, c.Addr)}
	return out
}

// eachExpandCase calls with cases of which all, some or none may be.
func eachExpandCase(call func(c expandCase)) {
	configs := slices.Concat(drawnLayouts(200), drawnConfigs(60), fullConfigs())
	for _, c := range goodConfigs {
		configs = append(configs, c.l)
	}
	for why, l := range badConfigs() {
		if len(l) < 3 && len(why)%7 == 0 && !slices.ContainsFunc(l, endless) {
			configs = append(configs, l)
		}
	}
	for _, text := range []string{
		`local m = {p = "x", q = [["y"]]} local n = $m local o = [$m, $n] res web each $m { a = db b = [db, net] } res db each $n { a = web } res net count 2 { a = val } out o = [web, db]`,
		"res a { x = a y = [a, a] } local s = \"a\" local t = $s", "res a each {a = {a = \"a\"}} { a = a }", "res web count 0 { }", "local a = $a", "local a = foo()",
	} {
		configs = append(configs, configFrom(text))
	}
	addrs := []string{"web", "web[0]", `web["p"]`, "a", `a["a"]`, "db", "net[1]", "", "web[", "none"}
	for i, l := range configs {
		c := expandCase{L: l, Addr: []byte(addrs[i%len(addrs)])}
		if len(l) > 0 {
			c.X = l[i%len(l)]
		}
		if insts, _, _ := impl.InstsOf(l); len(insts) > 0 && i%2 == 0 {
			c.Addr = insts[i%len(insts)].Addr
		}
		call(c)
	}
}

func TestExpandConventions(t *testing.T) {
	needed := 0
	eachExpandCase(func(c expandCase) {
		what := " of " + strconv.Quote(string(impl.ConfigText(c.L))) + ", " + string(c.Addr)
		plainly := expandAnswers(c)
		wideCase := looseExpandCase(c)
		var answers map[string][]any
		stays(t, what, wideCase, func() { answers = expandAnswers(wideCase) })
		for name, answer := range answers {
			newMemory(t, name+what, answer, []any{wideCase})
			for i := range answer {
				if !alike(answer[i], plainly[name][i]) {
					t.Errorf("%s%s: the room behind a list plays a part", name, what)
				}
			}
		}
		needed += len(answers["InstNeeds"][0].([][]byte))
	})
	if needed < 100 {
		t.Error(needed, "the cases tell nothing")
	}
}

// TestBesideAFlaw: beside a code that refuses is the zero value, beside CfWell and CfForm the number 0.
func TestBesideAFlaw(t *testing.T) {
	refused := map[string]int{}
	eachExpandCase(func(c expandCase) {
		for name, answer := range expandAnswers(c) {
			if len(answer) < 3 {
				continue
			}
			code, item := answer[1].(int), answer[2].(int)
			if (code == impl.CfWell || code == impl.CfForm) && item != 0 || item < 0 || item > 0 && item >= len(c.L) {
				t.Error(name, code, item)
			}
			if code == impl.CfWell {
				continue
			}
			refused[name]++
			if !alike(answer[0], impl.Value{}) && !alike(answer[0], []impl.Inst(nil)) {
				t.Error(name, answer)
			}
		}
	})
	if refused["LocalsOf"] < 20 || refused["InstsOf"] < 40 {
		t.Error(refused, "the cases tell nothing")
	}
}

// TestLocalsAndOnesMayBe: what is answered is ValOk itself, and known.
func TestLocalsAndOnesMayBe(t *testing.T) {
	eachExpandCase(func(c expandCase) {
		v, code, _ := impl.LocalsOf(c.L)
		if code == impl.CfWell && (v.Kind != impl.VkMap || !impl.ValKnown(v)) {
			t.Error(v)
		}
		insts, _, _ := impl.InstsOf(c.L)
		for _, one := range insts {
			if !impl.ValKnown(one.Index) || !impl.ValKnown(one.Key) || !impl.ValKnown(one.Val) || !impl.AddrOk(one.Addr) {
				t.Error(one)
			}
		}
	})
}

// TestExpandHangsOnNothingElse asks for the same again and again, with others between, and writes into each answer.
func TestExpandHangsOnNothingElse(t *testing.T) {
	mine := expandCase{L: configFrom(`local b = $a local a = {p = "x", q = [["y"]]} res web each $b { a = db b = net } res db count 2 { } res net { }`), X: itemFrom("res web { a = db b = net }"), Addr: []byte(`web["p"]`)}
	want := expandAnswers(mine)
	eachExpandCase(func(other expandCase) {
		expandAnswers(other)
		for name, answer := range expandAnswers(mine) {
			for i := range answer {
				if !alike(answer[i], want[name][i]) {
					t.Fatal(name, answer)
				}
			}
			switch x := answer[0].(type) {
			case impl.Value:
				overwrite(x)
			case []impl.Inst:
				for i := range x {
					overwrite(x[i].Index)
					overwrite(x[i].Key)
					overwrite(x[i].Val)
					overwriteTexts([][]byte{x[i].Addr})
					x[i].Item = 99
				}
			case [][]byte:
				overwriteTexts(x)
			}
		}
	})
}

// TestExpandOfEmptyLists: an empty list and nil are the same.
func TestExpandOfEmptyLists(t *testing.T) {
	null := impl.Expr{S: []byte{}, K: [][]byte{}, Kids: []impl.Expr{}}
	each := impl.Expr{Kind: impl.ExMap, S: []byte{}, K: [][]byte{}, Kids: []impl.Expr{}}
	web := impl.Item{Kind: impl.ItRes, Name: []byte("web"), By: null, Names: [][]byte{}, Exprs: []impl.Expr{}}
	none := impl.Item{Kind: impl.ItRes, Name: []byte("none"), Many: impl.MnEach, By: each, Names: [][]byte{}, Exprs: []impl.Expr{}}
	local := impl.Item{Kind: impl.ItLocal, Name: []byte("a"), By: null, Names: [][]byte{}, Exprs: []impl.Expr{null}}
	if got := localsText([]impl.Item{web, none, local}); got != "{a = null}" {
		t.Error(got)
	}
	if got := onesText([]impl.Item{none, local, web}); got != "web of 2" {
		t.Error(got)
	}
	if got := impl.ItemUses(web); len(got) != 0 {
		t.Error(texts(got))
	}
	if got := localsText([]impl.Item{}); got != "{}" || onesText([]impl.Item{}) != "" {
		t.Error(got)
	}
	if got := impl.InstNeeds([]impl.Item{web}, []byte{}); len(got) != 0 {
		t.Error(texts(got))
	}
}

// TestExpandOfSharedLists: parts of the arguments may share memory, and those of the answers do not.
func TestExpandOfSharedLists(t *testing.T) {
	name := []byte("a")
	keys := [][]byte{name}
	text := impl.Expr{Kind: impl.ExText, S: name}
	m := impl.Expr{Kind: impl.ExMap, K: keys, Kids: []impl.Expr{text}}
	res := impl.Expr{Kind: impl.ExRes, S: name}
	l := []impl.Item{
		{Kind: impl.ItLocal, Name: name, Exprs: m.Kids},
		{Kind: impl.ItRes, Name: name, Many: impl.MnEach, By: m, Names: keys, Exprs: []impl.Expr{res}},
		{Kind: impl.ItOut, Name: name, Exprs: m.Kids},
	}
	if got := onesText(l); got != `a["a"] of 1 key "a" val "a"` {
		t.Error(got)
	}
	c := expandCase{L: l, X: l[1], Addr: []byte(`a["a"]`)}
	for what, answer := range expandAnswers(c) {
		newMemory(t, what, answer, []any{c})
	}
	if got := texts(impl.InstNeeds(l, c.Addr)); got != `a["a"]` {
		t.Error(got)
	}
}
