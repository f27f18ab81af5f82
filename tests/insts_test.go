package tests

import (
	"strconv"
	"strings"
	"testing"

	"loop.example/g00407/impl"
)

// oneText is the text of a one: its address, the number of its item, and those of Index, Key and Val that are not null.
func oneText(x impl.Inst) string {
	out := string(x.Addr) + " of " + strconv.Itoa(x.Item)
	for i, v := range []impl.Value{x.Index, x.Key, x.Val} {
		if !alike(v, impl.Value{}) {
			out += " " + []string{"index ", "key ", "val "}[i] + string(impl.ValText(v))
		}
	}
	return out
}

// onesText is the text of what InstsOf tells: the ones, or the word of the code and the number.
func onesText(l []impl.Item) string {
	insts, code, item := impl.InstsOf(l)
	switch {
	case code == impl.CfWell && item == 0:
		var out []string
		for _, x := range insts {
			out = append(out, oneText(x))
		}
		return strings.Join(out, ", ")
	case code == impl.CfWell || len(insts) != 0:
		return "ones beside a code, or a number beside none"
	}
	return flawText(code, item)
}

// ones fails where the ones of a configuration are not what stands beside it.
func ones(t *testing.T, table [][2]string) {
	t.Helper()
	for _, c := range table {
		if got := onesText(configFrom(c[0])); got != c[1] {
			t.Errorf("%s: %s, wanted %s", c[0], got, c[1])
		}
	}
}

func TestOnes(t *testing.T) {
	ones(t, [][2]string{
		{"", ""}, {"local a = 1", ""}, {"out a = 1", ""},
		{"res web { }", "web of 0"}, {"res web { a = 1 b = index c = key d = val }", "web of 0"},
		{"local a = 1 out b = 2 res web { } local c = 3 res db { } out d = 4", "web of 2, db of 4"},
		{"res web count 0 { }", ""}, {"res web count 1 { }", "web[0] of 0 index 0"}, {"res web count 2 { }", "web[0] of 0 index 0, web[1] of 0 index 1"},
		{"res web count 5 { }", "web[0] of 0 index 0, web[1] of 0 index 1, web[2] of 0 index 2, web[3] of 0 index 3, web[4] of 0 index 4"},
		{"res web each {} { }", ""}, {"res web each {a = 1} { }", `web["a"] of 0 key "a" val 1`},
		{"res web each {a = 1, b = [2, {c = 3}]} { }", `web["a"] of 0 key "a" val 1, web["b"] of 0 key "b" val [2, {c = 3}]`},
		{"res web each {a = null, b = {}, c = [], d = \"x\", e = true} { }", `web["a"] of 0 key "a", web["b"] of 0 key "b" val {}, web["c"] of 0 key "c" val [], web["d"] of 0 key "d" val "x", web["e"] of 0 key "e" val true`},
		{"res web each {null = 1, res = 2} { }", `web["null"] of 0 key "null" val 1, web["res"] of 0 key "res" val 2`},
		{"local n = 2 res web count $n + 1 - 1 { }", "web[0] of 1 index 0, web[1] of 1 index 1"},
		{"res web count $m.n { } local m = {n = $k} local k = 1", "web[0] of 0 index 0"},
		{"res web each $m { } local m = {p = 1, q = $k} local k = [7]", `web["p"] of 0 key "p" val 1, web["q"] of 0 key "q" val [7]`},
		{"res web count len([1]) { } res db each true ? {x = 1} : 5 { }", `web[0] of 0 index 0, db["x"] of 1 key "x" val 1`},
		// In the order of the items, not of the addresses.
		{"res web count 2 { } res db each {q = 1, r = 2} { } res a { }", `web[0] of 0 index 0, web[1] of 0 index 1, db["q"] of 1 key "q" val 1, db["r"] of 1 key "r" val 2, a of 2`},
		{"res abcdefgh each {abcdefgh = 1} { }", `abcdefgh["abcdefgh"] of 0 key "abcdefgh" val 1`},
	})
	l := configFrom("local n = 1 res web count $n { } res db each {p = [1]} { } res a { x = web }")
	want := []impl.Inst{
		{Addr: []byte("web[0]"), Item: 1, Index: vInt(0)},
		{Addr: []byte(`db["p"]`), Item: 2, Key: vText("p"), Val: vList(vInt(1))},
		{Addr: []byte("a"), Item: 3},
	}
	if got, code, item := impl.InstsOf(l); code != impl.CfWell || item != 0 || !alike(got, want) {
		t.Error(got, code, item)
	}
}

// TestLocalsCountFirst: what LocalsOf tells is told ahead of all that is wrong with other items.
func TestLocalsCountFirst(t *testing.T) {
	for _, wrong := range []string{"res web { id = 1 }", "out o = index", "out o = $none", "res web { a = none }", "res web count index { }", "res web count 9 { }", "res web each foo() { }"} {
		ones(t, [][2]string{
			{wrong + " local a = db.id", "uses 1"}, {"local a = db.id " + wrong, "uses 0"},
			{wrong + " local a = $b", "lack 1"}, {"local a = $b " + wrong, "lack 0"},
			{wrong + " local a = $a", "ring 1"}, {"local a = $a " + wrong, "ring 0"},
			{wrong + " local a = foo()", "value 1"}, {"local a = foo() " + wrong, "value 0"},
			{wrong + " local a = " + nulls(40), "big 1"}, {"local a = " + nulls(40) + " " + wrong, "big 0"},
		})
	}
}

func TestAttributesThatUseMore(t *testing.T) {
	ones(t, [][2]string{
		{"res web { id = 1 }", "uses 0"}, {"res web { a = 1 id = 1 z = 1 }", "uses 0"}, {"out o = 1 res web count 2 { id = null }", "uses 1"}, {"res web each {} { id = 1 }", "uses 0"},
		// An output may be called so, a local and a resource too, and what is near it.
		{"out id = 1", ""}, {"local id = 1 res a { x = $id }", "a of 1"}, {"res id { x = id.id }", "id of 0"}, {"res web { i = 1 ida = 2 idx = 3 }", "web of 0"}, {"res web { a = {id = 1} }", "web of 0"},
	})
	for _, word := range []string{"index", "key", "val"} {
		for _, form := range barredParts {
			e := strings.ReplaceAll(form, "%", word)
			ones(t, [][2]string{
				{"out o = " + e, "uses 0"}, {"local l = 1 res web { } out a = 1 out o = " + e, "uses 3"},
				{"res web { a = " + e + " }", "web of 0"}, {"res web count 1 { a = 1 b = " + e + " }", "web[0] of 0 index 0"}, {"res web each {k = 2} { a = " + e + " }", `web["k"] of 0 key "k" val 2`},
			})
		}
	}
	// Attributes and outputs may use resources.
	for _, form := range barredParts {
		e := strings.ReplaceAll(form, "%", "db")
		ones(t, [][2]string{{"res db { } out o = " + e, "db of 0"}, {"res web { a = " + e + " } res db { }", "web of 0, db of 1"}})
	}
}

func TestAttributesThatNameWhatIsNot(t *testing.T) {
	for _, form := range barredParts {
		// Each is there as another kind of item.
		for _, word := range []string{"none", "l", "o", "$none", "$r", "$o", "$res"} {
			e := strings.ReplaceAll(form, "%", word)
			ones(t, [][2]string{
				{"local l = 1 out o = 1 res r { } out p = " + e, "lack 3"},
				{"local l = 1 out o = 1 res r { a = " + e + " }", "lack 2"},
				{"local l = 1 out o = 1 res r count 2 { a = 1 b = " + e + " c = 1 }", "lack 2"},
			})
		}
		for _, word := range []string{"r", "$l"} {
			e := strings.ReplaceAll(form, "%", word)
			ones(t, [][2]string{{"out p = " + e + " res r { a = " + e + " } local l = 1", "r of 1"}})
		}
	}
}

func TestHowManyMayNotUse(t *testing.T) {
	for _, many := range []string{"count", "each"} {
		for _, form := range barredParts {
			for _, word := range []string{"db", "none", "web", "index", "key", "val"} {
				e := strings.ReplaceAll(form, "%", word)
				ones(t, [][2]string{
					{"res web " + many + " " + e + " { }", "uses 0"},
					{"res db { } local l = 1 res web " + many + " " + e + " { a = 1 }", "uses 2"},
				})
			}
			for _, word := range []string{"$none", "$db", "$o", "$index"} {
				e := strings.ReplaceAll(form, "%", word)
				ones(t, [][2]string{
					{"res web " + many + " " + e + " { }", "lack 0"},
					{"res db { } out o = 1 res web " + many + " " + e + " { a = 1 }", "lack 2"},
				})
			}
		}
	}
}

// TestWhichFlawOfItemsCounts: item by item, attribute by attribute, then of how many there are.
func TestWhichFlawOfItemsCounts(t *testing.T) {
	ones(t, [][2]string{
		// In one attribute.
		{"res web { id = none }", "uses 0"}, {"res web { id = $none }", "uses 0"}, {"out o = none + index", "uses 0"}, {"out o = [index, $none]", "uses 0"},
		// In two of one item.
		{"res web { a = none id = 1 }", "lack 0"}, {"res web { id = 1 z = none }", "uses 0"}, {"res web { a = $none id = 1 }", "lack 0"}, {"res web { id = 1 z = $none }", "uses 0"},
		// In two items.
		{"res web { a = none } res db { id = 1 }", "lack 0"}, {"res db { id = 1 } res web { a = none }", "uses 0"},
		{"out o = none out p = index", "lack 0"}, {"out p = index out o = none", "uses 0"},
		{"res web { a = $none } out p = index", "lack 0"}, {"out p = index res web { a = $none }", "uses 0"},
		{"out o = $none res db { id = 1 }", "lack 0"}, {"res db { id = 1 } out o = $none", "uses 0"},
		// How many there are comes behind the attributes of its item, and ahead of those of the next one.
		{"res web count index { a = none }", "lack 0"}, {"res web count $none { id = 1 }", "uses 0"},
		{"res web count index + $none { }", "uses 0"}, {"res web each $none + db { }", "uses 0"},
		{"res web count index { } res db { a = none }", "uses 0"}, {"res web count $none { } res db { id = 1 }", "lack 0"},
		{"res db { a = none } res web count index { }", "lack 0"}, {"res db { id = 1 } res web each $none { }", "uses 0"},
		{"res db each $none { } res web count index { }", "lack 0"}, {"res db each key { } res web count $none { }", "uses 0"},
		{"res web count $none { } out o = index", "lack 0"}, {"out o = none res web count val { }", "lack 0"},
	})
	// All of these ahead of any By that has no value or is too many, and of too many in all.
	for _, late := range []string{"res x count foo() { }", "res x each 1 + true { }", "res x count 6 { }", "res x each 1 { }", manyOnes(17)} {
		for wrong, code := range map[string]string{"res web { id = 1 }": "uses", "out o = val": "uses", "out o = $none": "lack", "res web { a = none }": "lack", "res web count key { }": "uses", "res web each $none { }": "lack"} {
			n := len(configFrom(late))
			ones(t, [][2]string{{late + " " + wrong, code + " " + strconv.Itoa(n)}, {wrong + " " + late, code + " 0"}})
		}
	}
}

// manyOnes is a configuration with so many ones, five of each resource but the last one.
func manyOnes(n int) string {
	var out []string
	for i := 0; n > 0; i++ {
		out = append(out, "res m"+string(rune('a'+i))+" count "+strconv.Itoa(min(n, 5))+" { }")
		n -= 5
	}
	return strings.Join(out, " ")
}

func TestHowManyThereMayBe(t *testing.T) {
	for _, by := range []string{"-1", "6", "7", "1000000000000", "-1000000000000", "null", "true", "false", `""`, `"3"`, "[]", "[1]", "{}", "{a = 1}", "$n"} {
		ones(t, [][2]string{{"local n = 6 res web count " + by + " { }", "many 1"}, {"local n = 6 res db { } out o = 1 res web count " + by + " { a = 1 }", "many 3"}})
	}
	for _, by := range []string{"0", "1", "-1", "null", "true", "false", `""`, `"a"`, "[]", "[1]", "[{}]", "{a = 1, b = 2, c = 3, d = 4, e = 5, f = 6}", "{" + strings.ReplaceAll(manyKeys(12), " ", " = 1, ") + " = 1}", "$m"} {
		ones(t, [][2]string{{"local m = {a = 1, b = 1, c = 1, d = 1, e = 1, f = 1} res web each " + by + " { }", "many 1"}, {"local m = 5 res db { } out o = 1 res web each " + by + " { a = 1 }", "many 3"}})
	}
	for n := range 6 {
		count := configFrom("res web count " + strconv.Itoa(n) + " { }")
		each := []impl.Item{itEach(itRes("web", ""), exprOfByRule(wideMap(n+1)))}
		for _, l := range [][]impl.Item{count, each} {
			if got, code, item := impl.InstsOf(l); code != impl.CfWell || item != 0 || len(got) != n {
				t.Error(got, code, item)
			}
		}
	}
	for why, by := range map[string]string{"type": "1 + true", "lack": "$l[2]", "over": "1000000000000 * 2", "word": "foo()", "form": "len(" + strings.Repeat("1, ", 40) + "1)", "too many parts": nulls(41)} {
		for _, many := range []string{"count", "each"} {
			ones(t, [][2]string{
				{"local l = [1] res web " + many + " " + by + " { }", "value 1"},
				{"local l = [1] res db { } out o = 1 res web " + many + " " + by + " { a = 1 }", "value 3"},
			})
		}
		if _, code, _ := impl.InstsOf(configFrom("res web count true ? 1 : " + strings.ReplaceAll(by, "$l", "[1]") + " { }")); code != impl.CfWell {
			t.Error(why, "is not asked, and has a part in it")
		}
	}
	// Item by item: the first of what has no value and what is too many.
	ones(t, [][2]string{
		{"res a count foo() { } res b count 6 { }", "value 0"}, {"res a count 6 { } res b count foo() { }", "many 0"},
		{"res a { } res b each 1 { } res c each {}.x { }", "many 1"}, {"res a { } res b each {}.x { } res c each 1 { }", "value 1"},
	})
}

func TestTooManyOnes(t *testing.T) {
	for n := range 17 {
		if got, code, item := impl.InstsOf(configFrom(manyOnes(n))); code != impl.CfWell || item != 0 || len(got) != n {
			t.Error(n, code, item)
		}
	}
	ones(t, [][2]string{
		{manyOnes(17), "big 3"}, {manyOnes(18), "big 3"}, {manyOnes(20), "big 3"}, {manyOnes(25), "big 3"}, {manyOnes(60), "big 3"},
		{"local a = 1 out b = 1 " + manyOnes(17), "big 5"},
		{manyOnes(16) + " res z { }", "big 4"}, {manyOnes(16) + " res z count 0 { } res y each {} { } out o = 1 res x { } res w { }", "big 7"},
		{manyOnes(15) + " res z each {a = 1, b = 2} { } res y count 1 { }", "big 3"},
		{"res z { } " + manyOnes(16), "big 4"}, {"res z { } " + manyOnes(20), "big 4"},
		// Item by item with the others.
		{manyOnes(17) + " res z count 6 { }", "big 3"}, {manyOnes(17) + " res z each foo() { }", "big 3"},
		{manyOnes(15) + " res z count 6 { } " + "res y count 5 { }", "many 3"}, {manyOnes(15) + " res z each foo() { } res y count 5 { }", "value 3"},
		{manyOnes(16) + " res z count 6 { }", "many 4"},
	})
}
