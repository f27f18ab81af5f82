package tests

import (
	"bytes"
	"math"
	"strconv"
	"strings"
	"testing"

	"loop.example/g00407/impl"
)

var vNull = impl.Value{Kind: impl.VkNull}
var vUnknown = impl.Value{Kind: impl.VkUnknown}
var vFalse = impl.Value{Kind: impl.VkBool}
var vTrue = impl.Value{Kind: impl.VkBool, N: 1}

func vInt(n int) impl.Value        { return impl.Value{Kind: impl.VkInt, N: n} }
func vText(text string) impl.Value { return impl.Value{Kind: impl.VkText, S: []byte(text)} }

func vList(l ...impl.Value) impl.Value { return impl.Value{Kind: impl.VkList, L: l} }

// vMap takes keys, parted by blanks, and as many values.
func vMap(keys string, l ...impl.Value) impl.Value {
	return impl.Value{Kind: impl.VkMap, K: keysOf(keys), L: l}
}

func keysOf(keys string) [][]byte {
	var out [][]byte
	for _, key := range strings.Fields(keys) {
		out = append(out, []byte(key))
	}
	return out
}

// wide is a list of so many parts in all.
func wide(parts int) impl.Value {
	return vList(make([]impl.Value, parts-1)...)
}

// manyKeys are so many names, ascending.
func manyKeys(n int) string {
	var out []string
	for i := range n {
		out = append(out, string([]byte{'a' + byte(i/26), 'a' + byte(i%26)}))
	}
	return strings.Join(out, " ")
}

// wideMap is a map of so many parts in all, ints being its values.
func wideMap(parts int) impl.Value {
	m := vMap(manyKeys(parts - 1))
	for i := range m.K {
		m.L = append(m.L, vInt(i))
	}
	return m
}

// deepLists is a value of so many lists in each other, with inner in the last one.
func deepLists(lists int, inner ...impl.Value) impl.Value {
	v := vList(inner...)
	for range lists - 1 {
		v = vList(v)
	}
	return v
}

// deepMaps is likewise of maps.
func deepMaps(maps int) impl.Value {
	v := vMap("")
	for range maps - 1 {
		v = vMap("k", v)
	}
	return v
}

// goodCases: values that may be, with what is told of each.
var goodCases = []struct {
	v           impl.Value
	text, bytes string
	parts, deep int
	known       bool
}{
	{vNull, "null", "\x00", 1, 1, true},
	{vFalse, "false", "\x01\x00", 1, 1, true},
	{vTrue, "true", "\x01\x01", 1, 1, true},
	{vUnknown, "?", "\x06", 1, 1, false},
	{vInt(0), "0", "\x02\x00\x00\x00", 1, 1, true},
	{vInt(7), "7", "\x02\x00\x00\x07", 1, 1, true},
	{vInt(-7), "-7", "\x02\x01\x00\x07", 1, 1, true},
	{vInt(999999), "999999", "\x02\x00\x00\xbf\x84\x3d", 1, 1, true},
	{vInt(-999999), "-999999", "\x02\x01\x00\xbf\x84\x3d", 1, 1, true},
	{vInt(1000000), "1000000", "\x02\x00\x01\x00", 1, 1, true},
	{vInt(-1000000), "-1000000", "\x02\x01\x01\x00", 1, 1, true},
	{vInt(2000003), "2000003", "\x02\x00\x02\x03", 1, 1, true},
	{vInt(-129000130), "-129000130", "\x02\x01\x81\x01\x82\x01", 1, 1, true},
	{vInt(impl.MaxInt), "1000000000000", "\x02\x00\xc0\x84\x3d\x00", 1, 1, true},
	{vInt(-impl.MaxInt), "-1000000000000", "\x02\x01\xc0\x84\x3d\x00", 1, 1, true},
	{vInt(impl.MaxInt - 1), "999999999999", "\x02\x00\xbf\x84\x3d\xbf\x84\x3d", 1, 1, true},
	{vText(""), `""`, "\x03\x00", 1, 1, true},
	{vText("ab c"), `"ab c"`, "\x03\x04ab c", 1, 1, true},
	{vText(" ~"), `" ~"`, "\x03\x02 ~", 1, 1, true},
	{vText(`"`), `"\""`, "\x03\x01\"", 1, 1, true},
	{vText(`\`), `"\\"`, "\x03\x01\\", 1, 1, true},
	{vText(`a\"b`), `"a\\\"b"`, "\x03\x04a\\\"b", 1, 1, true},
	{vText("01234567890123456789"), `"01234567890123456789"`, "\x03\x1401234567890123456789", 1, 1, true},
	{vText("[{,= ?'`"), "\"[{,= ?'`\"", "\x03\x08[{,= ?'`", 1, 1, true},
	{vList(), "[]", "\x04\x00", 1, 1, true},
	{vList(vNull), "[null]", "\x04\x01\x00", 2, 2, true},
	{vList(vTrue, vInt(-1), vText("a")), `[true, -1, "a"]`, "\x04\x03\x01\x01\x02\x01\x00\x01\x03\x01a", 4, 2, true},
	{vList(vNull, vUnknown), "[null, ?]", "\x04\x02\x00\x06", 3, 2, false},
	{vList(vList(), vList(vList()), vMap("")), "[[], [[]], {}]", "\x04\x03\x04\x00\x04\x01\x04\x00\x05\x00", 5, 3, true},
	{vMap(""), "{}", "\x05\x00", 1, 1, true},
	{vMap("a", vNull), "{a = null}", "\x05\x01\x01a\x00", 2, 2, true},
	{vMap("a aa b", vFalse, vInt(2), vText("x")), `{a = false, aa = 2, b = "x"}`, "\x05\x03\x01a\x01\x00\x02aa\x02\x00\x00\x02\x01b\x03\x01x", 4, 2, true},
	{vMap("abcdefgh z", vMap("z", vList(vNull)), vUnknown), "{abcdefgh = {z = [null]}, z = ?}", "\x05\x02\x08abcdefgh\x05\x01\x01z\x04\x01\x00\x01z\x06", 5, 4, false},
	{vList(vMap("a b", vList(vUnknown), vMap("c", vInt(1)))), "[{a = [?], b = {c = 1}}]", "\x04\x01\x05\x02\x01a\x04\x01\x06\x01b\x05\x01\x01c\x02\x00\x00\x01", 6, 4, false},
	{deepLists(5), "[[[[[]]]]]", "\x04\x01\x04\x01\x04\x01\x04\x01\x04\x00", 5, 5, true},
	{deepMaps(5), "{k = {k = {k = {k = {}}}}}", "\x05\x01\x01k\x05\x01\x01k\x05\x01\x01k\x05\x01\x01k\x05\x00", 5, 5, true},
	{deepLists(4, vNull, vUnknown), "[[[[null, ?]]]]", "\x04\x01\x04\x01\x04\x01\x04\x02\x00\x06", 6, 5, false},
	{wide(40), "[null" + strings.Repeat(", null", 38) + "]", "\x04\x27" + strings.Repeat("\x00", 39), 40, 2, true},
}

func goodValues() []impl.Value {
	var out []impl.Value
	for _, c := range goodCases {
		out = append(out, c.v)
	}
	return append(out, wideMap(40))
}

// badAlone: values that may not be, each for one reason.
var badAlone = []struct {
	why string
	v   impl.Value
}{
	{"kind below VkNull", impl.Value{Kind: -1}},
	{"kind far below VkNull", impl.Value{Kind: math.MinInt}},
	{"kind above VkUnknown", impl.Value{Kind: 7}},
	{"kind far above VkUnknown", impl.Value{Kind: math.MaxInt}},
	{"bool 2", impl.Value{Kind: impl.VkBool, N: 2}},
	{"bool -1", impl.Value{Kind: impl.VkBool, N: -1}},
	{"int above MaxInt", vInt(impl.MaxInt + 1)},
	{"int below -MaxInt", vInt(-impl.MaxInt - 1)},
	{"greatest int", vInt(math.MaxInt)},
	{"least int", vInt(math.MinInt)},
	{"text too long", vText("012345678901234567890")},
	{"byte 31", vText("a\x1f")},
	{"byte 127", vText("\x7fa")},
	{"byte 0", vText("\x00")},
	{"byte 10", vText("a\nb")},
	{"byte 128", vText("a\x80b")},
	{"byte 255", vText("\xff")},
	{"key without a byte", impl.Value{Kind: impl.VkMap, K: [][]byte{{}}, L: []impl.Value{vNull}}},
	{"key of nine bytes", vMap("abcdefghi", vNull)},
	{"key with a digit", vMap("a1", vNull)},
	{"great key", vMap("A", vNull)},
	{"key with a blank", impl.Value{Kind: impl.VkMap, K: [][]byte{[]byte("a b")}, L: []impl.Value{vNull}}},
	{"last key is none", vMap("a b _", vNull, vNull, vNull)},
	{"keys descend", vMap("b a", vNull, vNull)},
	{"key twice", vMap("a a", vNull, vNull)},
	{"keys descend at the end", vMap("a c b", vNull, vNull, vNull)},
	{"longer key ahead", vMap("ab a", vNull, vNull)},
	{"key without a value", vMap("a b", vNull)},
	{"keys without values", vMap("a")},
	{"value without a key", vMap("a", vNull, vNull)},
	{"values without keys", vMap("", vNull)},
	{"null with N", impl.Value{Kind: impl.VkNull, N: 1}},
	{"null with S", impl.Value{Kind: impl.VkNull, S: []byte("a")}},
	{"null with K", impl.Value{Kind: impl.VkNull, K: keysOf("a")}},
	{"null with L", impl.Value{Kind: impl.VkNull, L: []impl.Value{vNull}}},
	{"bool with S", impl.Value{Kind: impl.VkBool, N: 1, S: []byte("a")}},
	{"bool with K", impl.Value{Kind: impl.VkBool, N: 1, K: keysOf("a")}},
	{"bool with L", impl.Value{Kind: impl.VkBool, L: []impl.Value{vNull}}},
	{"int with S", impl.Value{Kind: impl.VkInt, N: 3, S: []byte("a")}},
	{"int with K", impl.Value{Kind: impl.VkInt, N: 3, K: keysOf("a")}},
	{"int with L", impl.Value{Kind: impl.VkInt, L: []impl.Value{vNull}}},
	{"text with N", impl.Value{Kind: impl.VkText, S: []byte("a"), N: -1}},
	{"text with K", impl.Value{Kind: impl.VkText, S: []byte("a"), K: keysOf("a")}},
	{"text with L", impl.Value{Kind: impl.VkText, L: []impl.Value{vNull}}},
	{"list with N", impl.Value{Kind: impl.VkList, N: 1}},
	{"list with S", impl.Value{Kind: impl.VkList, S: []byte("a")}},
	{"list with K", impl.Value{Kind: impl.VkList, K: keysOf("a"), L: []impl.Value{vNull}}},
	{"map with N", impl.Value{Kind: impl.VkMap, N: 1}},
	{"map with S", impl.Value{Kind: impl.VkMap, S: []byte("a")}},
	{"unknown with N", impl.Value{Kind: impl.VkUnknown, N: 1}},
	{"unknown with S", impl.Value{Kind: impl.VkUnknown, S: []byte("a")}},
	{"unknown with K", impl.Value{Kind: impl.VkUnknown, K: keysOf("a")}},
	{"unknown with L", impl.Value{Kind: impl.VkUnknown, L: []impl.Value{vNull}}},
	{"a key that is empty, of no map", impl.Value{Kind: impl.VkList, K: [][]byte{nil}}},
	{"too many parts", wide(41)},
	{"too many parts of a map", wideMap(41)},
	{"far too many parts", wide(5000)},
	{"too many parts in all", vList(wide(20), wide(20))},
	{"too many parts in all of a map", vMap("a b", wide(20), wide(20))},
	{"lists too deep", deepLists(6)},
	{"maps too deep", deepMaps(6)},
	{"a null too deep", deepLists(5, vNull)},
	{"a later one too deep", vList(vNull, deepLists(5))},
	{"lists far too deep", deepLists(3000)},
}

// badValues are those, and those alone in a list and in a map, and values without end.
func badValues() map[string]impl.Value {
	out := map[string]impl.Value{}
	for _, c := range badAlone {
		out[c.why] = c.v
		out[c.why+", in a list"] = vList(c.v)
		out[c.why+", behind others in a list"] = vList(vNull, vTrue, c.v)
		out[c.why+", in a map"] = vMap("a", c.v)
		out[c.why+", behind another in a map"] = vMap("a b", vNull, c.v)
		out[c.why+", two deeper"] = vMap("a", vList(vNull, c.v))
	}
	endless := vList(vNull, vNull)
	endless.L[1] = endless
	out["in itself"] = endless
	twofold := vMap("a b", vNull, vNull)
	twofold.L[0], twofold.L[1] = twofold, twofold
	out["twice in itself"] = twofold
	broad := wide(3000)
	for i := range broad.L {
		broad.L[i] = broad
	}
	out["often in itself"] = broad
	return out
}

// draw is a source of numbers that is the same at each run.
type draw uint64

func (d *draw) upTo(n int) int {
	*d = *d*6364136223846793005 + 1442695040888963407
	return int(uint64(*d)>>33) % n
}

// value draws one that keeps all rules but, perhaps, the limits.
func (d *draw) value(depth int) impl.Value {
	kinds := 7
	if depth <= 1 {
		kinds = 4
	}
	switch d.upTo(kinds) {
	case 0:
		return []impl.Value{vNull, vUnknown, vFalse, vTrue}[d.upTo(4)]
	case 1:
		return vInt([]int{0, 1, -1, 5, -5, 999999, -1000000, 1000001, impl.MaxInt, -impl.MaxInt}[d.upTo(10)])
	case 2, 3:
		return vText([]string{"", "a", "b", "ab", `"`, `\"`, "~ ", "01234567890123456789"}[d.upTo(8)])
	case 4, 5:
		v := vList()
		for range d.upTo(4) {
			v.L = append(v.L, d.value(depth-1))
		}
		return v
	}
	v := vMap("")
	for _, key := range []string{"a", "aa", "ab", "b", "zzzzzzzz"} {
		if d.upTo(2) == 0 {
			v.K = append(v.K, []byte(key))
			v.L = append(v.L, d.value(depth-1))
		}
	}
	return v
}

// drawnValues are so many that may be.
func drawnValues(n int) []impl.Value {
	d := draw(n)
	var out []impl.Value
	for len(out) < n {
		if v := d.value(5); partsByRule(v) <= impl.MaxParts {
			out = append(out, v)
		}
	}
	return out
}

func partsByRule(v impl.Value) int {
	n := 1
	for _, x := range v.L {
		n += partsByRule(x)
	}
	return n
}

func deepByRule(v impl.Value) int {
	n := 0
	for _, x := range v.L {
		n = max(n, deepByRule(x))
	}
	return n + 1
}

func textByRule(v impl.Value) string {
	var parts []string
	for i, x := range v.L {
		part := textByRule(x)
		if v.Kind == impl.VkMap {
			part = string(v.K[i]) + " = " + part
		}
		parts = append(parts, part)
	}
	row := strings.Join(parts, ", ")
	quoted := `"` + strings.NewReplacer(`"`, `\"`, `\`, `\\`).Replace(string(v.S)) + `"`
	return []string{"null", strconv.FormatBool(v.N == 1), strconv.Itoa(v.N), quoted, "[" + row + "]", "{" + row + "}", "?"}[v.Kind]
}

func bytesByRule(v impl.Value) string {
	text := func(b []byte) string { return string([]byte{byte(len(b))}) + string(b) }
	num := func(n int) string { return string(impl.PutNum(nil, n)) }
	out := num(v.Kind)
	switch v.Kind {
	case impl.VkBool:
		out += num(v.N)
	case impl.VkInt:
		sign, size := "\x00", v.N
		if v.N < 0 {
			sign, size = "\x01", -v.N
		}
		out += sign + num(size/1000000) + num(size%1000000)
	case impl.VkText:
		out += text(v.S)
	case impl.VkList, impl.VkMap:
		out += num(len(v.L))
		for i, x := range v.L {
			if v.Kind == impl.VkMap {
				out += text(v.K[i])
			}
			out += bytesByRule(x)
		}
	}
	return out
}

func TestValueLimits(t *testing.T) {
	if impl.MaxParts != 40 || impl.MaxDeep != 5 || impl.MaxInt != 1000000000000 {
		t.Error("limits")
	}
	kinds := []int{impl.VkNull, impl.VkBool, impl.VkInt, impl.VkText, impl.VkList, impl.VkMap, impl.VkUnknown}
	for i, kind := range kinds {
		if kind != i {
			t.Error(i, kind)
		}
	}
}

func TestNames(t *testing.T) {
	for _, c := range []struct {
		name string
		ok   bool
	}{{"", false}, {"a", true}, {"z", true}, {"az", true}, {"abcdefg", true}, {"abcdefgh", true}, {"zzzzzzzz", true}, {"abcdefghi", false}, {strings.Repeat("a", 300), false}} {
		if impl.NameOk([]byte(c.name)) != c.ok {
			t.Errorf("NameOk(%q)", c.name)
		}
	}
	if impl.NameOk(nil) {
		t.Error("nil")
	}
	for c := range 256 {
		letter := 'a' <= c && c <= 'z'
		for _, size := range []int{1, 2, 8} {
			for at := range size {
				name := bytes.Repeat([]byte("m"), size)
				name[at] = byte(c)
				if impl.NameOk(name) != letter {
					t.Errorf("NameOk(%q)", name)
				}
			}
		}
	}
}

func TestValuesThatMayBe(t *testing.T) {
	for _, v := range append(goodValues(), drawnValues(3000)...) {
		if !impl.ValOk(v) {
			t.Errorf("ValOk(%s)", textByRule(v))
		}
	}
	for c := range 256 {
		if impl.ValOk(vText("x"+string([]byte{byte(c)}))) != (32 <= c && c <= 126) {
			t.Error("byte", c)
		}
	}
	for size := range 40 {
		if impl.ValOk(vText(strings.Repeat("x", size))) != (size <= impl.MaxText) {
			t.Error("text of", size)
		}
	}
}

func TestValuesThatMayNotBe(t *testing.T) {
	for why, v := range badValues() {
		b, fine := impl.ValBytes(v)
		if impl.ValOk(v) || impl.ValKnown(v) || impl.ValParts(v) != 0 || impl.ValDeep(v) != 0 || len(impl.ValText(v)) != 0 || len(impl.ValKeys(v)) != 0 || fine || len(b) != 0 {
			t.Error(why)
		}
		for _, other := range []impl.Value{vNull, vUnknown, vMap("a", vTrue), v} {
			if impl.ValCmp(v, other) != 0 || impl.ValCmp(other, v) != 0 {
				t.Error(why, "in order")
			}
		}
	}
}

// TestParts takes each way to come to MaxParts, and past it by one.
func TestParts(t *testing.T) {
	for parts := 1; parts <= impl.MaxParts+1; parts++ {
		values := []impl.Value{wide(parts), wideMap(parts)}
		for split := 1; split < parts-1; split++ {
			values = append(values, vList(wide(split), wideMap(parts-1-split)), vMap("a b", wideMap(split), wide(parts-1-split)))
		}
		for _, v := range values {
			want := parts
			if parts > impl.MaxParts {
				want = 0
			}
			if impl.ValParts(v) != want || impl.ValOk(v) != (want > 0) {
				t.Fatal(parts, impl.ValParts(v))
			}
		}
	}
}

func TestDepth(t *testing.T) {
	for deep := 1; deep <= impl.MaxDeep+1; deep++ {
		mixed := vNull
		if deep%2 == 0 {
			mixed = vList()
		}
		for deepByRule(mixed) < deep {
			mixed = vMap("a b c", vTrue, vList(mixed), vList())
			if deepByRule(mixed) > deep {
				mixed = mixed.L[1]
			}
		}
		for _, v := range []impl.Value{deepLists(deep), deepMaps(deep), mixed} {
			want := deep
			if deep > impl.MaxDeep {
				want = 0
			}
			if impl.ValDeep(v) != want || impl.ValOk(v) != (want > 0) {
				t.Error(deep, impl.ValDeep(v), textByRule(v))
			}
		}
	}
}

func TestWhatIsToldOfValues(t *testing.T) {
	for _, c := range goodCases {
		b, ok := impl.ValBytes(c.v)
		if !ok || string(b) != c.bytes {
			t.Errorf("ValBytes(%s) = %q", c.text, b)
		}
		if text := impl.ValText(c.v); string(text) != c.text {
			t.Errorf("ValText = %s, not %s", text, c.text)
		}
		if impl.ValParts(c.v) != c.parts || impl.ValDeep(c.v) != c.deep || impl.ValKnown(c.v) != c.known {
			t.Error(c.text, impl.ValParts(c.v), impl.ValDeep(c.v), impl.ValKnown(c.v))
		}
	}
	for _, v := range drawnValues(3000) {
		b, ok := impl.ValBytes(v)
		text := textByRule(v)
		bare := strings.NewReplacer(`"`, "").Replace(text)
		if !ok || string(b) != bytesByRule(v) || string(impl.ValText(v)) != text {
			t.Fatalf("%q %s %s", b, impl.ValText(v), text)
		}
		if impl.ValParts(v) != partsByRule(v) || impl.ValDeep(v) != deepByRule(v) || impl.ValKnown(v) == strings.Contains(bare, "?") {
			t.Fatal(text, impl.ValParts(v), impl.ValDeep(v), impl.ValKnown(v))
		}
	}
}

// ascendingValues stand in the order of values.
var ascendingValues = []impl.Value{
	vNull,
	vFalse, vTrue,
	vInt(-impl.MaxInt), vInt(-1000000), vInt(-2), vInt(-1), vInt(0), vInt(1), vInt(2), vInt(10), vInt(impl.MaxInt),
	vText(""), vText(" "), vText("A"), vText("a"), vText("aa"), vText("ab"), vText("b"), vText("~"),
	vList(), vList(vNull), vList(vNull, vNull), vList(vNull, vUnknown), vList(vFalse), vList(vInt(-1)), vList(vInt(1), vText("")), vList(vInt(1), vText(""), vNull), vList(vInt(2)), vList(vText("z")),
	vList(vList()), vList(vList(), vNull), vList(vList(vNull)), vList(vMap("")), vList(vMap("a", vNull)), vList(vUnknown), vList(vUnknown, vNull),
	vMap(""), vMap("a", vNull), vMap("a b", vNull, vNull), vMap("a b", vNull, vTrue), vMap("a c", vNull, vNull), vMap("a", vFalse), vMap("a", vTrue), vMap("a", vList()), vMap("a b", vList(), vNull), vMap("a", vUnknown), vMap("a b", vUnknown, vNull),
	vMap("aa", vNull), vMap("ab", vNull), vMap("b", vNull), vMap("b c", vNull, vNull), vMap("b", vMap("a", vNull)), vMap("z", vNull),
	vUnknown,
}

func TestOrderOfValues(t *testing.T) {
	for i, a := range ascendingValues {
		for j, b := range ascendingValues {
			want := 0
			if i < j {
				want = -1
			}
			if i > j {
				want = 1
			}
			if got := impl.ValCmp(a, b); got != want {
				t.Errorf("ValCmp(%s, %s) = %d", textByRule(a), textByRule(b), got)
			}
		}
	}
}

func TestOrderIsOne(t *testing.T) {
	values := append(drawnValues(70), goodValues()...)
	for _, a := range values {
		for _, b := range values {
			ab := impl.ValCmp(a, b)
			if ab != -impl.ValCmp(b, a) || ab < -1 || ab > 1 || (ab == 0) != (bytesByRule(a) == bytesByRule(b)) {
				t.Fatalf("ValCmp(%s, %s) = %d", textByRule(a), textByRule(b), ab)
			}
			for _, c := range values {
				if ab <= 0 && impl.ValCmp(b, c) < 0 && impl.ValCmp(a, c) != -1 {
					t.Fatalf("%s, %s, %s", textByRule(a), textByRule(b), textByRule(c))
				}
			}
		}
	}
}

// fieldsOf are a map's keys and what they have.
func fieldsOf(v impl.Value) map[string]string {
	out := map[string]string{}
	for i, key := range v.K {
		out[string(key)] = textByRule(v.L[i])
	}
	return out
}

func TestSetGetDrop(t *testing.T) {
	keys := []string{"a", "aa", "ab", "b", "c", "zzzzzzzz"}
	others := drawnValues(12)
	maps := []impl.Value{vMap(""), vMap("a", vNull), vMap("aa b", vUnknown, vList(vTrue)), vMap("a aa ab b c zzzzzzzz", others[0], vNull, vNull, others[1], vInt(5), vText("t"))}
	for _, m := range maps {
		for _, key := range keys {
			was := fieldsOf(m)
			old, had := was[key]
			got, is := impl.ValGet(m, []byte(key))
			if is != had || is && textByRule(got) != old || !is && !alike(got, impl.Value{}) {
				t.Errorf("ValGet(%s, %s) = %s, %v", textByRule(m), key, textByRule(got), is)
			}
			less, gone := impl.ValDrop(m, []byte(key))
			delete(was, key)
			if gone != had || !impl.ValOk(less) || !alike(fieldsOf(less), was) {
				t.Errorf("ValDrop(%s, %s) = %s, %v", textByRule(m), key, textByRule(less), gone)
			}
			for _, x := range others {
				set, ok := impl.ValSet(m, []byte(key), x)
				was[key] = textByRule(x)
				if partsByRule(m)+partsByRule(x) <= impl.MaxParts && deepByRule(x) < impl.MaxDeep && !(ok && impl.ValOk(set) && alike(fieldsOf(set), was)) {
					t.Errorf("ValSet(%s, %s, %s) = %s, %v", textByRule(m), key, textByRule(x), textByRule(set), ok)
				}
			}
		}
	}
}

// TestSetAtTheEnds: keys come to stand at each place.
func TestSetAtTheEnds(t *testing.T) {
	m := vMap("b d", vInt(1), vInt(2))
	for _, c := range []struct {
		key, text string
	}{{"a", "{a = 9, b = 1, d = 2}"}, {"b", "{b = 9, d = 2}"}, {"c", "{b = 1, c = 9, d = 2}"}, {"d", "{b = 1, d = 9}"}, {"e", "{b = 1, d = 2, e = 9}"}} {
		if set, ok := impl.ValSet(m, []byte(c.key), vInt(9)); !ok || textByRule(set) != c.text {
			t.Error(c.key, textByRule(set), ok)
		}
	}
	for _, c := range []struct {
		key, text string
	}{{"b", "{d = 2}"}, {"d", "{b = 1}"}} {
		if less, ok := impl.ValDrop(m, []byte(c.key)); !ok || textByRule(less) != c.text {
			t.Error(c.key, textByRule(less), ok)
		}
	}
}

func TestSetWhatMayNotBe(t *testing.T) {
	m := vMap("a b", vInt(1), vList(vNull))
	for _, key := range []string{"", "A", "a1", "abcdefghi", " a", "a\x00", "\xff", strings.Repeat("b", 500)} {
		if set, ok := impl.ValSet(m, []byte(key), vNull); ok || !alike(set, m) {
			t.Errorf("ValSet %q: %v", key, set)
		}
		if got, ok := impl.ValGet(m, []byte(key)); ok || !alike(got, impl.Value{}) {
			t.Errorf("ValGet %q: %v", key, got)
		}
		if less, ok := impl.ValDrop(m, []byte(key)); ok || !alike(less, m) {
			t.Errorf("ValDrop %q: %v", key, less)
		}
	}
	if set, ok := impl.ValSet(m, nil, vNull); ok || !alike(set, m) {
		t.Error(set)
	}
}

func TestSetAndLimits(t *testing.T) {
	for parts := 2; parts <= impl.MaxParts; parts++ {
		m := wideMap(parts)
		room := impl.MaxParts - parts
		if room > 0 {
			if set, ok := impl.ValSet(m, []byte("zz"), wide(room)); !ok || impl.ValParts(set) != impl.MaxParts {
				t.Error(parts, "and", room, set, ok)
			}
		}
		if set, ok := impl.ValSet(m, []byte("zz"), wide(room+1)); ok || !alike(set, m) {
			t.Error(parts, "and", room+1, set, ok)
		}
		// What is replaced makes room.
		if set, ok := impl.ValSet(m, m.K[0], wide(room+1)); !ok || impl.ValParts(set) != impl.MaxParts {
			t.Error(parts, "replaced", set, ok)
		}
		if set, ok := impl.ValSet(m, m.K[0], wide(room+2)); room+2 <= impl.MaxParts && (ok || !alike(set, m)) {
			t.Error(parts, "replaced by too much", set, ok)
		}
	}
	for deep := 1; deep <= impl.MaxDeep; deep++ {
		m := vMap("b", vNull)
		set, ok := impl.ValSet(m, []byte("a"), deepLists(deep))
		if ok != (deep < impl.MaxDeep) || ok && impl.ValDeep(set) != deep+1 || !ok && !alike(set, m) {
			t.Error(deep, set, ok)
		}
	}
}

func TestNoMapAndNoValue(t *testing.T) {
	type answer struct {
		v  impl.Value
		ok bool
	}
	none := answer{}
	check := func(what string, v impl.Value, x impl.Value) {
		t.Helper()
		got, is := impl.ValGet(v, []byte("a"))
		set, ok := impl.ValSet(v, []byte("a"), x)
		less, gone := impl.ValDrop(v, []byte("a"))
		both, fine := impl.ValMerge(v, vMap("a", vNull))
		turned, well := impl.ValMerge(vMap("a", vNull), v)
		for i, one := range []answer{{got, is}, {set, ok}, {less, gone}, {both, fine}, {turned, well}} {
			if !alike([]impl.Value{one.v}, []impl.Value{none.v}) || one.ok {
				t.Error(what, i, one)
			}
		}
		if len(impl.ValKeys(v)) != 0 {
			t.Error(what, "keys")
		}
	}
	for _, v := range goodValues() {
		if v.Kind != impl.VkMap {
			check(textByRule(v), v, vNull)
		}
	}
	m := vMap("a b", vInt(1), vList(vNull))
	for why, bad := range badValues() {
		check(why, bad, vNull)
		if set, ok := impl.ValSet(m, []byte("a"), bad); ok || !alike(set, impl.Value{}) {
			t.Error(why, set)
		}
		// That x may not be counts ahead of a key that is no name.
		if set, ok := impl.ValSet(m, []byte("A"), bad); ok || !alike(set, impl.Value{}) {
			t.Error(why, set)
		}
	}
}

func TestKeys(t *testing.T) {
	for _, keys := range []string{"", "a", "a b", "a aa ab b z", "abcdefgh", manyKeys(39)} {
		m := vMap(keys)
		for range m.K {
			m.L = append(m.L, vNull)
		}
		if got := impl.ValKeys(m); !alike(got, keysOf(keys)) {
			t.Errorf("%q", got)
		}
	}
}

func TestMerge(t *testing.T) {
	var maps []impl.Value
	for _, v := range append(goodValues(), drawnValues(400)...) {
		if v.Kind == impl.VkMap {
			maps = append(maps, v)
		}
	}
	refused, made := 0, 0
	for _, a := range maps {
		for _, b := range maps {
			want := fieldsOf(a)
			parts := partsByRule(b)
			for i, key := range a.K {
				if _, there := fieldsOf(b)[string(key)]; !there {
					parts += partsByRule(a.L[i])
				}
			}
			for key, text := range fieldsOf(b) {
				want[key] = text
			}
			both, ok := impl.ValMerge(a, b)
			if ok != (parts <= impl.MaxParts) || ok && !(impl.ValOk(both) && alike(fieldsOf(both), want)) || !ok && !alike(both, impl.Value{}) {
				t.Fatalf("ValMerge(%s, %s) = %s, %v", textByRule(a), textByRule(b), textByRule(both), ok)
			}
			if ok {
				made++
			} else {
				refused++
			}
		}
	}
	if refused == 0 || made == 0 {
		t.Error(refused, made)
	}
}

func TestMergeAndLimits(t *testing.T) {
	for parts := 1; parts < impl.MaxParts; parts++ {
		a := wideMap(parts)
		room := impl.MaxParts - parts
		if both, ok := impl.ValMerge(a, vMap("zz", wide(room))); !ok || impl.ValParts(both) != impl.MaxParts {
			t.Error(parts, both, ok)
		}
		if both, ok := impl.ValMerge(vMap("zz", wide(room)), a); !ok || impl.ValParts(both) != impl.MaxParts {
			t.Error(parts, both, ok)
		}
		if both, ok := impl.ValMerge(a, vMap("zz", vList(make([]impl.Value, room)...))); room+2 <= impl.MaxParts && (ok || !alike(both, impl.Value{})) {
			t.Error(parts, both, ok)
		}
	}
	full := wideMap(impl.MaxParts)
	if both, ok := impl.ValMerge(full, full); !ok || !alike(both, full) {
		t.Error(both, ok)
	}
}

func TestValuesComeBack(t *testing.T) {
	for _, v := range append(goodValues(), drawnValues(3000)...) {
		b, ok := impl.ValBytes(v)
		back, fine := impl.ValRead(b)
		if !ok || !fine || !alike(back, v) {
			t.Fatalf("%s came back as %s", textByRule(v), textByRule(back))
		}
	}
	for n := range 3000 {
		for _, v := range []impl.Value{vInt(n), vInt(-n), vInt(1000000 - 1500 + n), vInt(-1000000 + 1500 - n), vInt(impl.MaxInt - n), vInt(n*333333333 - impl.MaxInt)} {
			b, _ := impl.ValBytes(v)
			if back, ok := impl.ValRead(b); !ok || back.N != v.N || back.Kind != impl.VkInt {
				t.Fatal(v.N, back)
			}
		}
	}
}

// readsJust fails where b is read as a value whose bytes are others, and tells whether it is read.
func readsJust(t *testing.T, b []byte) bool {
	t.Helper()
	v, ok := impl.ValRead(b)
	if !ok {
		if !alike(v, impl.Value{}) {
			t.Fatalf("ValRead(%q) = %v, false", b, v)
		}
		return false
	}
	if again, fine := impl.ValBytes(v); !fine || !bytes.Equal(again, b) || bytesByRule(v) != string(b) {
		t.Fatalf("ValRead(%q) = %s", b, textByRule(v))
	}
	return true
}

func TestBytesThatAreNoValue(t *testing.T) {
	deep := func(lists int) string { return strings.Repeat("\x04\x01", lists-1) + "\x04\x00" }
	cases := []struct {
		why, bytes string
	}{
		{"nothing", ""},
		{"kind 7", "\x07"},
		{"kind 127", "\x7f"},
		{"kind 128", "\x80\x01"},
		{"kind in two bytes", "\x80\x00"},
		{"null with more", "\x00\x00"},
		{"unknown with more", "\x06\x06"},
		{"bool cut short", "\x01"},
		{"bool 2", "\x01\x02"},
		{"bool 129", "\x01\x81\x01"},
		{"bool with more", "\x01\x01\x01"},
		{"int cut short", "\x02"},
		{"int cut behind the sign", "\x02\x00"},
		{"int cut in the middle", "\x02\x00\x01"},
		{"int cut in a number", "\x02\x00\x01\x80"},
		{"minus 0", "\x02\x01\x00\x00"},
		{"sign 2", "\x02\x02\x00\x01"},
		{"sign 128", "\x02\x80\x01\x00\x01"},
		{"what is left is a million", "\x02\x00\x00\xc0\x84\x3d"},
		{"what is left is a million and 1", "\x02\x00\x01\xc1\x84\x3d"},
		{"above MaxInt by one", "\x02\x00\xc0\x84\x3d\x01"},
		{"below -MaxInt by one", "\x02\x01\xc0\x84\x3d\x01"},
		{"above MaxInt by a million", "\x02\x00\xc1\x84\x3d\x00"},
		{"far above MaxInt", "\x02\x00\xff\xff\xff\xff\x07\xff\xff\xff\xff\x07"},
		{"int with more", "\x02\x00\x00\x01\x00"},
		{"text cut short", "\x03"},
		{"text not all there", "\x03\x02a"},
		{"text with more", "\x03\x01ab"},
		{"text too long", "\x03\x15012345678901234567890"},
		{"text with byte 31", "\x03\x01\x1f"},
		{"text with byte 127", "\x03\x01\x7f"},
		{"text with byte 200", "\x03\x02a\xc8"},
		{"list cut short", "\x04"},
		{"list not all there", "\x04\x02\x00"},
		{"list with more", "\x04\x01\x00\x00"},
		{"empty list with more", "\x04\x00\x00"},
		{"list of MaxNum", "\x04\xff\xff\xff\xff\x07"},
		{"list of MaxNum with some", "\x04\xff\xff\xff\xff\x07\x00\x00\x00"},
		{"list with a bad bool", "\x04\x01\x01\x02"},
		{"list with a minus 0", "\x04\x01\x02\x01\x00\x00"},
		{"list with kind 7", "\x04\x01\x07"},
		{"map cut short", "\x05"},
		{"map without a key", "\x05\x01"},
		{"map without a value", "\x05\x01\x01a"},
		{"map not all there", "\x05\x02\x01a\x00"},
		{"map with more", "\x05\x01\x01a\x00\x00"},
		{"map of MaxNum", "\x05\xff\xff\xff\xff\x07\x01a\x00"},
		{"map with an empty key", "\x05\x01\x00\x00"},
		{"map with a great key", "\x05\x01\x01A\x00"},
		{"map with a key of nine bytes", "\x05\x01\x09abcdefghi\x00"},
		{"map with keys that descend", "\x05\x02\x01b\x00\x01a\x00"},
		{"map with a key twice", "\x05\x02\x01a\x00\x01a\x00"},
		{"map with a bad value", "\x05\x01\x01a\x01\x02"},
		{"too many parts", "\x04\x28" + strings.Repeat("\x00", 40)},
		{"too many parts in all", "\x04\x02\x04\x13" + strings.Repeat("\x00", 19) + "\x04\x13" + strings.Repeat("\x00", 19)},
		{"far too many parts", "\x04\x90\x4e" + strings.Repeat("\x00", 10000)},
		{"too deep", deep(6)},
		{"too deep by a null", strings.Repeat("\x04\x01", 5) + "\x00"},
		{"far too deep", deep(200000)},
		{"maps too deep", strings.Repeat("\x05\x01\x01a", 5) + "\x05\x00"},
	}
	for _, c := range cases {
		if v, ok := impl.ValRead([]byte(c.bytes)); ok || !alike(v, impl.Value{}) {
			t.Errorf("%s: read as %s", c.why, textByRule(v))
		}
	}
	if v, ok := impl.ValRead(nil); ok || !alike(v, impl.Value{}) {
		t.Error(v)
	}
}

func TestReadValuesAreJustTheirBytes(t *testing.T) {
	read := 0
	check := func(b []byte) {
		if readsJust(t, b) {
			read++
		}
	}
	eachBytes([]byte{0, 1, 2, 3, 4, 5, 6, 7, 'a', 'b', 128, 255}, 5, check)
	eachBytes([]byte{0, 1, 2, 5, 'a'}, 8, check)
	if read < 500 {
		t.Error("only", read, "were read")
	}
}

// TestBytesBesideValues takes the bytes of values cut short, with more behind, and with one other byte.
func TestBytesBesideValues(t *testing.T) {
	for _, v := range append(goodValues(), drawnValues(300)...) {
		b := []byte(bytesByRule(v))
		for cut := range b {
			if readsJust(t, b[:cut]) {
				t.Fatalf("%q of %q was read", b[:cut], b)
			}
		}
		for _, more := range []string{"\x00", "\x01", "\x80", "a", string(b)} {
			if readsJust(t, append(bytes.Clone(b), more...)) {
				t.Fatalf("%q with %q behind was read", b, more)
			}
		}
		for at := range b {
			for _, c := range []byte{0, 1, 2, 5, 6, 7, 31, 'a', 'z', 127, 128, 255, b[at] + 1, b[at] - 1} {
				other := bytes.Clone(b)
				other[at] = c
				readsJust(t, other)
			}
		}
	}
}

// loose copies v with marked room behind each of its lists.
func loose(v impl.Value) impl.Value {
	out := impl.Value{Kind: v.Kind, N: v.N, S: roomyOf(v.S, mark)}
	for _, key := range v.K {
		out.K = append(out.K, roomyOf(key, 'q'))
	}
	for _, x := range v.L {
		out.L = append(out.L, loose(x))
	}
	out.K = roomyOf(out.K, []byte("zz"))
	out.L = roomyOf(out.L, vText("behind"))
	return out
}

// valueAnswers are all that the functions of values say of these.
func valueAnswers(v impl.Value, x impl.Value, key []byte) map[string][]any {
	out := map[string][]any{}
	tell := func(name string, answers ...any) { out[name] = answers }
	get, is := impl.ValGet(v, key)
	tell("ValGet", get, is)
	set, ok := impl.ValSet(v, key, x)
	tell("ValSet", set, ok)
	less, gone := impl.ValDrop(v, key)
	tell("ValDrop", less, gone)
	both, fine := impl.ValMerge(v, x)
	tell("ValMerge", both, fine)
	b, put := impl.ValBytes(v)
	tell("ValBytes", b, put)
	tell("ValText", impl.ValText(v))
	tell("ValKeys", impl.ValKeys(v))
	tell("told", impl.ValOk(v), impl.ValCmp(v, x), impl.ValParts(v), impl.ValDeep(v), impl.ValKnown(v), impl.NameOk(key))
	return out
}

func TestValueConventions(t *testing.T) {
	values := append(goodValues(), drawnValues(20)...)
	for _, c := range badAlone {
		if partsByRule(c.v) < 100 {
			values = append(values, c.v, vMap("a", c.v))
		}
	}
	sets := []impl.Value{vNull, vMap("a c", vList(vText("x")), vText("y")), wide(40), vInt(impl.MaxInt + 1)}
	for _, v := range values {
		for _, x := range sets {
			for _, key := range []string{"", "a", "c", "zz", "A"} {
				plainly := valueAnswers(v, x, []byte(key))
				wideV, wideX, wideKey := loose(v), loose(x), roomyOf([]byte(key), mark)
				given := []any{wideV, wideX, wideKey}
				var answers map[string][]any
				for _, one := range given {
					stays(t, textByRuleOr(v), one, func() { answers = valueAnswers(wideV, wideX, wideKey) })
				}
				for name, answer := range answers {
					newMemory(t, name+" of "+textByRuleOr(v), answer, given)
					for i := range answer {
						if !alike(answer[i], plainly[name][i]) {
							t.Errorf("%s of %s: the room behind a list plays a part", name, textByRuleOr(v))
						}
					}
				}
			}
		}
	}
}

// textByRuleOr is of values that may not be, too.
func textByRuleOr(v impl.Value) string {
	if impl.ValOk(v) {
		return textByRule(v)
	}
	return "what may not be"
}

// TestMergedWithItself: one argument may stand twice.
func TestMergedWithItself(t *testing.T) {
	m := loose(vMap("a b", vList(vText("x")), vMap("c", vNull)))
	both, ok := impl.ValMerge(m, m)
	set, fine := impl.ValSet(m, []byte("b"), m)
	if !ok || !fine || textByRule(both) != textByRule(m) || textByRule(set) != `{a = ["x"], b = {a = ["x"], b = {c = null}}}` {
		t.Error(both, set)
	}
	newMemory(t, "ValMerge", []any{both}, []any{m})
	newMemory(t, "ValSet", []any{set}, []any{m})
}

// TestSharedPartsComeApart: parts of an argument may share memory, those of an answer may not.
func TestSharedPartsComeApart(t *testing.T) {
	one := vMap("k", vText("x"))
	m := vMap("a b", vList(one, one), one)
	set, ok := impl.ValSet(m, []byte("c"), one)
	if !ok {
		t.Fatal(set)
	}
	newMemory(t, "ValSet", []any{set}, []any{m, one})
	got, _ := impl.ValGet(m, []byte("a"))
	newMemory(t, "ValGet", []any{got}, []any{m, one})
	both, _ := impl.ValMerge(m, m)
	newMemory(t, "ValMerge", []any{both}, []any{m, one})
	less, _ := impl.ValDrop(m, []byte("b"))
	newMemory(t, "ValDrop", []any{less}, []any{m, one})
}

func TestReadValuesAreNewMemory(t *testing.T) {
	for _, v := range append(goodValues(), drawnValues(100)...) {
		b := roomyOf([]byte(bytesByRule(v)), mark)
		var back impl.Value
		stays(t, "ValRead", b, func() { back, _ = impl.ValRead(b) })
		newMemory(t, "ValRead", []any{back}, []any{b})
		// What lies behind would be the rest of it.
		for cut := range b {
			if _, ok := impl.ValRead(b[:cut]); ok {
				t.Fatalf("ValRead(%q)", b[:cut])
			}
		}
	}
}

func TestEmptyAndNilValues(t *testing.T) {
	for kind := impl.VkNull; kind <= impl.VkUnknown; kind++ {
		bare := impl.Value{Kind: kind}
		full := impl.Value{Kind: kind, S: []byte{}, K: [][]byte{}, L: []impl.Value{}}
		if !impl.ValOk(bare) || !impl.ValOk(full) || impl.ValCmp(bare, full) != 0 || impl.ValCmp(full, bare) != 0 {
			t.Error(kind)
		}
		for name, answer := range valueAnswers(bare, vMap(""), []byte("a")) {
			for i, other := range valueAnswers(full, vMap(""), []byte("a"))[name] {
				if !alike(answer[i], other) {
					t.Error(kind, name)
				}
			}
		}
	}
}

func TestAnswersHangOnNothingElse(t *testing.T) {
	v := wideMap(30)
	for range 50 {
		if string(impl.ValText(v)) != textByRule(v) || impl.ValCmp(v, v) != 0 {
			t.Fatal(string(impl.ValText(v)))
		}
		if b, _ := impl.ValBytes(v); string(b) != bytesByRule(v) {
			t.Fatal(b)
		}
		if set, ok := impl.ValSet(v, []byte("ac"), vNull); !ok || !impl.ValOk(set) {
			t.Fatal(set)
		}
	}
}
