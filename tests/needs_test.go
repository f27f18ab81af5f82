package tests

import (
	"strings"
	"testing"

	"loop.example/g00407/impl"
)

// itemFrom reads an item that the tests themselves wrote.
func itemFrom(text string) impl.Item { return configFrom(text)[0] }

func TestItemUses(t *testing.T) {
	for text, want := range map[string]string{
		"local a = 1": "", "local a = $b": "", "local a = web": "web", "local a = [web.id, db, web]": "db web",
		"out a = 1": "", "out a = web.id": "web", "out web = {b = web, c = [db]}": "db web",
		"res web { }": "", "res web { a = 1 }": "", "res web { a = web.id }": "web", "res web { a = db.id b = $db }": "db", "res web { db = 1 id = 2 }": "",
		"res web { a = db.id b = db c = [db, {db = db}] }": "db", "res web { a = net.id b = db.id c = app.id }": "app db net", "res web { a = z + y b = y + x c = x + z }": "x y z",
		"res web { a = true || db b = false ? app : 1 c = foo(net) }": "app db net", "res web { a = web(1) b = {web = 1}.web c = \"web\" d = index }": "",
		// By's names do not count.
		"res web count db { }": "", "res web each db.m { a = net }": "net", "res web count db { a = db }": "db", "res web count 3 { a = db }": "db",
	} {
		if got := texts(impl.ItemUses(itemFrom(text))); got != want {
			t.Errorf("%s: %s, wanted %s", text, got, want)
		}
	}
	for _, form := range barredParts {
		e := exprFrom(strings.ReplaceAll(form, "%", "db"))
		for _, x := range []impl.Item{itLocal("a", e), itOut("a", e), itRes("a", "x y", eRes("app"), e), itCount(itRes("a", "x y", e, eRes("app")), eRes("net"))} {
			want := "db"
			if x.Kind == impl.ItRes {
				want = "app db"
			}
			if got := texts(impl.ItemUses(x)); got != want {
				t.Errorf("%s: %s, wanted %s", form, got, want)
			}
		}
	}
	// As long as x alone may be, it does not matter what would be wrong with it as one of a configuration.
	full := itCount(itRes("a", "a b", eOf(impl.ExList, append(make([]impl.Expr, 73), eRes("db"))...), eNull), wideExpr(74))
	if got := texts(impl.ItemUses(full)); got != "db" {
		t.Error(got)
	}
	full.By = wideExpr(75)
	if got := impl.ItemUses(full); len(got) != 0 {
		t.Error(texts(got))
	}
}

func TestItemsThatMayNotBeUseNothing(t *testing.T) {
	for why, l := range badConfigs() {
		for _, x := range l[:min(len(l), 20)] {
			// Some are wrong only beside others.
			if impl.ConfigOk([]impl.Item{x}) {
				continue
			}
			if got := impl.ItemUses(x); len(got) != 0 {
				t.Error(why, texts(got))
			}
		}
	}
	db := eRes("db")
	for why, x := range map[string]impl.Item{
		"no name": itOut("", db), "a kept name": itLocal("res", db), "two expressions": {Kind: impl.ItOut, Name: []byte("a"), Exprs: []impl.Expr{db, db}},
		"no names": itRes("a", "", db), "names that descend": itRes("a", "b a", db, db), "a kind above": {Kind: 3, Name: []byte("a"), Exprs: []impl.Expr{db}}, "a kind below": {Kind: -1, Name: []byte("a"), Exprs: []impl.Expr{db}},
		"a part that may not be": itRes("a", "a b", db, eInt(-1)), "such a By": itCount(itRes("a", "a", db), eInt(-1)), "a By of one": {Kind: impl.ItRes, Name: []byte("a"), By: eInt(1), Names: keysOf("a"), Exprs: []impl.Expr{db}},
		"7 attributes": itRes("a", "a b c d e f g", db, db, db, db, db, db, db), "too many parts": itRes("a", "a b", db, wideExpr(150)), "many above": {Kind: impl.ItRes, Name: []byte("a"), Many: 3, Names: keysOf("a"), Exprs: []impl.Expr{db}},
		"an output with count": itCount(itOut("a", db), eInt(1)), "all zero": {},
	} {
		if got := impl.ItemUses(x); len(got) != 0 {
			t.Error(why, texts(got))
		}
	}
}

// needs fails where the ones of a configuration do not need what stands beside their addresses.
func needs(t *testing.T, config string, table [][2]string) {
	t.Helper()
	for _, c := range table {
		if got := texts(impl.InstNeeds(configFrom(config), []byte(c[0]))); got != c[1] {
			t.Errorf("%s: %s needs %s, wanted %s", config, c[0], got, c[1])
		}
	}
}

func TestInstNeeds(t *testing.T) {
	all := `local n = 2 out o = web res web count $n { a = db["p"].id b = net.id } res net { } res db each {p = 2, q = 1} { a = net } res none count 0 { a = web } res app { a = none b = 1 } res own count 2 { a = own }`
	needs(t, all, [][2]string{
		{"web[0]", `db["p"] db["q"] net`}, {"web[1]", `db["p"] db["q"] net`}, {"net", ""}, {`db["p"]`, "net"}, {`db["q"]`, "net"}, {"app", ""}, {"own[0]", "own[0] own[1]"}, {"own[1]", "own[0] own[1]"},
		// There are no such ones.
		{"web", ""}, {"web[2]", ""}, {`web["p"]`, ""}, {"net[0]", ""}, {"db", ""}, {"db[0]", ""}, {`db["r"]`, ""}, {"none", ""}, {"none[0]", ""}, {"n", ""}, {"o", ""}, {"own", ""}, {"own[2]", ""}, {"zzz", ""},
		{"", ""}, {"web[", ""}, {"web[0", ""}, {"web[00]", ""}, {"web[0] ", ""}, {"WEB", ""}, {"web[-1]", ""}, {strings.Repeat("web[0]", 1000), ""},
	})
	// A local, an output and a resource of one name: the address is the resource's.
	needs(t, "local a = 1 out a = c res a { x = b } res b { } res c { }", [][2]string{{"a", "b"}})
	// By bytes, not by the order of the items: the sign behind a shorter name comes ahead of a longer name's letter.
	needs(t, "res z { a = web b = weba c = we d = app } res weba count 2 { } res web each {b = 1, c = 1} { } res we { } res app count 1 { }", [][2]string{{"z", `app[0] we web["b"] web["c"] weba[0] weba[1]`}})
	needs(t, "res z { a = y + x b = x } res x count 5 { } res y each {a = 1, b = 1, c = 1, d = 1, e = 1} { }", [][2]string{{"z", `x[0] x[1] x[2] x[3] x[4] y["a"] y["b"] y["c"] y["d"] y["e"]`}})
	// Names that begin alike are different ones.
	needs(t, "res z { a = web } res web { } res we { } res webb count 2 { }", [][2]string{{"z", "web"}, {"we", ""}})
	// How many there are of one needs nothing, and rings of resources may be.
	needs(t, "local n = 1 res z count $n { } res a { x = b } res b { x = a }", [][2]string{{"z[0]", ""}, {"a", "b"}, {"b", "a"}})
	// What is not asked is needed, too.
	needs(t, "res z { a = true ? 1 : y b = foo(1, x) } res y { } res x { }", [][2]string{{"z", "x y"}})
}

// TestNothingIsNeededWithoutOnes: InstsOf is not CfWell.
func TestNothingIsNeededWithoutOnes(t *testing.T) {
	for _, wrong := range []string{"local l = $l", "local l = index", "local l = $none", "local l = foo()", "local l = " + nulls(40), "out o = val", "out o = none", "res c { id = 1 }", "res c count 6 { }", "res c count foo() { }", "res c each 1 { }", manyOnes(15)} {
		for _, l := range []string{wrong + " res a { x = b } res b { }", "res a { x = b } res b { } " + wrong} {
			needs(t, l, [][2]string{{"a", ""}, {"b", ""}, {"c", ""}, {"ma[0]", ""}})
		}
	}
	needs(t, "res a { x = b } res b { } "+manyOnes(14), [][2]string{{"a", "b"}})
}
