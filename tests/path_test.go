package tests

import (
	"bytes"
	"cmp"
	"math"
	"regexp"
	"slices"
	"strconv"
	"strings"
	"testing"

	"loop.example/g00407/impl"
)

func sKey(key string) impl.Step { return impl.Step{Kind: impl.StKey, Key: []byte(key)} }
func sItem(i int) impl.Step     { return impl.Step{Kind: impl.StItem, I: i} }

var oneStep = regexp.MustCompile(`\.([a-z]+)|\[([0-9]+)\]`)

// aPath is just what the text of a path may be.
var aPath = regexp.MustCompile(`^(\.[a-z]{1,8}|\[(0|[1-9]|[1-3][0-9])\]){0,6}$`)

// way makes steps of a text, more of them than a path may have, too.
func way(text string) []impl.Step {
	var out []impl.Step
	for _, found := range oneStep.FindAllStringSubmatch(text, -1) {
		if found[1] != "" {
			out = append(out, sKey(found[1]))
			continue
		}
		i, _ := strconv.Atoi(found[2])
		out = append(out, sItem(i))
	}
	return out
}

func wayText(p []impl.Step) string {
	out := ""
	for _, s := range p {
		out += []string{"." + string(s.Key), "[" + strconv.Itoa(s.I) + "]"}[s.Kind]
	}
	return out
}

var goodPaths = []string{
	"", ".a", ".z", ".abcdefgh", ".zzzzzzzz", "[0]", "[1]", "[9]", "[10]", "[38]", "[39]",
	".a.b", ".a[0]", "[0].a", "[0][0]", "[39].zzzzzzzz", ".null[3].true",
	".a.b.c.d.e", ".a.b.c.d.e.f", "[0][1][2][3][4]", "[0][1][2][3][4][5]", ".a[0].a[0].a[0]", "[39].abcdefgh[39].abcdefgh[39].abcdefgh",
}

// badSteps: steps that may not be, each for one reason.
var badSteps = []struct {
	why string
	s   impl.Step
}{
	{"kind below StKey", impl.Step{Kind: -1}},
	{"kind below StKey with a name", impl.Step{Kind: -1, Key: []byte("a")}},
	{"kind above StItem", impl.Step{Kind: 2}},
	{"kind above StItem with a name", impl.Step{Kind: 2, Key: []byte("a")}},
	{"kind above StItem with a place", impl.Step{Kind: 2, I: 1}},
	{"least kind", impl.Step{Kind: math.MinInt}},
	{"greatest kind", impl.Step{Kind: math.MaxInt}},
	{"zero", impl.Step{}},
	{"key without a byte", impl.Step{Kind: impl.StKey, Key: []byte{}}},
	{"key of nine bytes", sKey("abcdefghi")},
	{"long key", sKey(strings.Repeat("a", 5000))},
	{"great key", sKey("A")},
	{"key with a digit", sKey("a1")},
	{"key with a blank", sKey("a b")},
	{"key with a dot", sKey("a.b")},
	{"key with a bracket", sKey("a[0]")},
	{"key with byte 0", sKey("a\x00")},
	{"key with byte 255", sKey("\xffa")},
	{"key with a place", impl.Step{Kind: impl.StKey, Key: []byte("a"), I: 1}},
	{"key with a place below 0", impl.Step{Kind: impl.StKey, Key: []byte("a"), I: -1}},
	{"key with the greatest place", impl.Step{Kind: impl.StKey, Key: []byte("a"), I: math.MaxInt}},
	{"place with a key", impl.Step{Kind: impl.StItem, Key: []byte("a"), I: 1}},
	{"place 0 with a key", impl.Step{Kind: impl.StItem, Key: []byte("a")}},
	{"place with a byte that is no name", impl.Step{Kind: impl.StItem, Key: []byte{0}}},
	{"place below 0", sItem(-1)},
	{"place MaxParts", sItem(impl.MaxParts)},
	{"place above MaxParts", sItem(impl.MaxParts + 1)},
	{"least place", sItem(math.MinInt)},
	{"greatest place", sItem(math.MaxInt)},
}

// badPaths are those alone, behind, ahead of and between others, and paths that are too long.
func badPaths() map[string][]impl.Step {
	out := map[string][]impl.Step{
		"keys, one too many":   way(".a.b.c.d.e.f.g"),
		"places, one too many": way("[0][1][2][3][4][5][6]"),
		"mixed, one too many":  way(".a[0].a[0].a[0].a"),
		"far too many":         slices.Repeat(way(".a"), 100000),
	}
	for _, c := range badSteps {
		out[c.why] = []impl.Step{c.s}
		out[c.why+", ahead of others"] = append([]impl.Step{c.s}, way(".a[1]")...)
		out[c.why+", between others"] = append(append(way("[0]"), c.s), way(".b")...)
		out[c.why+", as the last of MaxSteps"] = append(way(".a.b.c.d.e"), c.s)
	}
	return out
}

// path draws one that may be.
func (d *draw) path() []impl.Step {
	var out []impl.Step
	for range d.upTo(impl.MaxSteps + 1) {
		if d.upTo(2) == 0 {
			out = append(out, sKey([]string{"a", "aa", "ab", "b", "zzzzzzzz"}[d.upTo(5)]))
		} else {
			out = append(out, sItem([]int{0, 1, 2, 9, 10, 39}[d.upTo(6)]))
		}
	}
	return out
}

func drawnPaths(n int) [][]impl.Step {
	d := draw(n)
	var out [][]impl.Step
	for range n {
		out = append(out, d.path())
	}
	return out
}

func cmpWays(a []impl.Step, b []impl.Step) int {
	for i := range min(len(a), len(b)) {
		if a[i].Kind != b[i].Kind {
			return cmp.Compare(a[i].Kind, b[i].Kind)
		}
		if a[i].Kind == impl.StKey && string(a[i].Key) != string(b[i].Key) {
			return strings.Compare(string(a[i].Key), string(b[i].Key))
		}
		if a[i].I != b[i].I {
			return cmp.Compare(a[i].I, b[i].I)
		}
	}
	return cmp.Compare(len(a), len(b))
}

func TestStepLimits(t *testing.T) {
	if impl.MaxSteps != 6 || impl.StKey != 0 || impl.StItem != 1 {
		t.Error("limits")
	}
}

func TestPathsThatMayBe(t *testing.T) {
	for _, text := range goodPaths {
		p := way(text)
		if !impl.PathOk(p) || string(impl.PathText(p)) != text {
			t.Errorf("%s: %s", text, impl.PathText(p))
		}
	}
	for i := -3; i < impl.MaxParts+3; i++ {
		if impl.PathOk([]impl.Step{sItem(i)}) != (0 <= i && i < impl.MaxParts) {
			t.Error("place", i)
		}
	}
	for steps := range 20 {
		ok := steps <= impl.MaxSteps
		if impl.PathOk(slices.Repeat(way(".k"), steps)) != ok || impl.PathOk(slices.Repeat(way("[7]"), steps)) != ok {
			t.Error(steps, "steps")
		}
	}
	for size := range 12 {
		if impl.PathOk([]impl.Step{sKey(strings.Repeat("k", size))}) != (1 <= size && size <= 8) {
			t.Error("key of", size)
		}
	}
	if !impl.PathOk(nil) || !impl.PathOk([]impl.Step{}) || !impl.PathOk([]impl.Step{{Kind: impl.StItem, Key: []byte{}}}) {
		t.Error("empty lists")
	}
}

func TestPathsThatMayNotBe(t *testing.T) {
	for why, p := range badPaths() {
		if impl.PathOk(p) || len(impl.PathText(p)) != 0 {
			t.Error(why)
		}
		for _, other := range [][]impl.Step{nil, way(".a"), way("[39]"), p} {
			if impl.PathCmp(p, other) != 0 || impl.PathCmp(other, p) != 0 {
				t.Error(why, "in order")
			}
		}
		if v, ok := impl.At(vMap("a", vList(vNull, vNull)), p); ok || !alike(v, impl.Value{}) {
			t.Error(why, "leads to", v)
		}
	}
}

// ascendingPaths stand in the order of paths.
var ascendingPaths = []string{
	"", ".a", ".a.a", ".a.a.a.a.a.a", ".a.b", ".a[0]", ".a[0].a", ".a[0][0]", ".a[1]", ".a[2]", ".a[10]", ".a[39]",
	".aa", ".aa.a", ".ab", ".abcdefgh", ".b", ".b.a", ".z", ".zzzzzzzz[39]",
	"[0]", "[0].a", "[0].a.a", "[0].b", "[0][0]", "[0][0][0]", "[0][1]", "[1]", "[1].z", "[2]", "[9]", "[10]", "[11]", "[20]", "[39]", "[39].z",
}

func TestOrderOfPaths(t *testing.T) {
	for i, a := range ascendingPaths {
		for j, b := range ascendingPaths {
			if got := impl.PathCmp(way(a), way(b)); got != cmp.Compare(i, j) {
				t.Errorf("PathCmp(%s, %s) = %d", a, b, got)
			}
		}
	}
}

func TestOrderOfPathsIsOne(t *testing.T) {
	paths := drawnPaths(120)
	for _, a := range paths {
		for _, b := range paths {
			ab := impl.PathCmp(a, b)
			if ab != cmpWays(a, b) || ab != -impl.PathCmp(b, a) || (ab == 0) != (wayText(a) == wayText(b)) {
				t.Fatalf("PathCmp(%s, %s) = %d", wayText(a), wayText(b), ab)
			}
			for _, c := range paths {
				if ab <= 0 && impl.PathCmp(b, c) < 0 && impl.PathCmp(a, c) != -1 {
					t.Fatalf("%s, %s, %s", wayText(a), wayText(b), wayText(c))
				}
			}
		}
	}
}

func TestPathsComeBack(t *testing.T) {
	paths := drawnPaths(3000)
	for _, text := range goodPaths {
		paths = append(paths, way(text))
	}
	for i := range impl.MaxParts {
		paths = append(paths, []impl.Step{sItem(i)}, []impl.Step{sKey("k"), sItem(i)})
	}
	for _, p := range paths {
		text := impl.PathText(p)
		back, ok := impl.PathRead(text)
		if string(text) != wayText(p) || !ok || !alike(back, p) {
			t.Fatalf("%s came back as %s", wayText(p), wayText(back))
		}
	}
	if p, ok := impl.PathRead(nil); !ok || len(p) != 0 {
		t.Error("nil is read as", p)
	}
	if p, ok := impl.PathRead([]byte{}); !ok || len(p) != 0 {
		t.Error("the empty text is read as", p)
	}
}

// readsJustPath fails where b is read but is no path's text, or is one and is not read as that path, and tells whether it is read.
func readsJustPath(t *testing.T, b []byte) bool {
	t.Helper()
	p, ok := impl.PathRead(b)
	if ok != aPath.Match(b) || !ok && len(p) != 0 {
		t.Fatalf("PathRead(%q) = %v, %v", b, p, ok)
	}
	if ok && (!impl.PathOk(p) || string(impl.PathText(p)) != string(b) || !alike(p, way(string(b)))) {
		t.Fatalf("PathRead(%q) = %v", b, p)
	}
	return ok
}

func TestTextsThatAreNoPath(t *testing.T) {
	cases := []struct {
		why, text string
	}{
		{"a dot alone", "."},
		{"two dots", ".."},
		{"a dot at the end", ".a."},
		{"a dot ahead of a dot", "..a"},
		{"a dot ahead of a place", ".[0]"},
		{"a name without a dot", "a"},
		{"a name behind a place without a dot", "[0]a"},
		{"a name of nine bytes", ".abcdefghi"},
		{"a great name", ".A"},
		{"a name with a digit", ".a1"},
		{"a blank", " "},
		{"a blank ahead", " .a"},
		{"a blank behind", ".a "},
		{"a blank in a place", "[ 1]"},
		{"byte 0 behind", ".a\x00"},
		{"a byte above 127", ".\xc3\xa9"},
		{"a number alone", "1"},
		{"an open bracket alone", "["},
		{"a closed bracket alone", "]"},
		{"no number", "[]"},
		{"no closed bracket", "[1"},
		{"no open bracket", "1]"},
		{"two open brackets", "[[1]"},
		{"two closed brackets", "[1]]"},
		{"brackets in each other", "[[1]]"},
		{"no closed bracket ahead of a key", "[1.a"},
		{"no closed bracket ahead of a place", "[1[2]"},
		{"a key in brackets", "[a]"},
		{"a quoted key in brackets", `["a"]`},
		{"needless nought", "[01]"},
		{"two noughts", "[00]"},
		{"needless noughts", "[0000000000000000000000000000001]"},
		{"minus 1", "[-1]"},
		{"minus 0", "[-0]"},
		{"plus 1", "[+1]"},
		{"an underscore", "[1_0]"},
		{"another base", "[0x1]"},
		{"a broken number", "[1.0]"},
		{"MaxParts", "[40]"},
		{"above MaxParts", "[41]"},
		{"three digits", "[100]"},
		{"2 to the 32", "[4294967296]"},
		{"2 to the 63", "[9223372036854775808]"},
		{"2 to the 64", "[18446744073709551616]"},
		{"2 to the 64 and 1", "[18446744073709551617]"},
		{"far too large", "[" + strings.Repeat("9", 5000) + "]"},
		{"one key too many", ".a.b.c.d.e.f.g"},
		{"one place too many", "[0][1][2][3][4][5][6]"},
		{"far too many", strings.Repeat(".a[0]", 100000)},
		{"a bad step behind the sixth", ".a.b.c.d.e.f."},
		{"what is behind the sixth", ".a.b.c.d.e.f]"},
		{"a bad step at the sixth", ".a.b.c.d.e[40]"},
		{"a long text without steps", strings.Repeat("x", 100000)},
		{"a long name", "." + strings.Repeat("x", 100000)},
	}
	for _, c := range cases {
		if p, ok := impl.PathRead([]byte(c.text)); ok || len(p) != 0 {
			t.Errorf("%s: read as %v", c.why, p)
		}
	}
}

func TestReadPathsAreJustTheirTexts(t *testing.T) {
	read := 0
	check := func(b []byte) {
		if readsJustPath(t, b) {
			read++
		}
	}
	eachBytes([]byte(".[]019a-"), 6, check)
	eachBytes([]byte(".[]3az"), 7, check)
	if read < 200 {
		t.Error("only", read, "were read")
	}
	for c := range 256 {
		for _, text := range []string{"?", ".?", ".a?", "[?]", "[1?]", "[?1]", "[1?", ".a?b", "[1]?[2]", "[1]?"} {
			check(bytes.Replace([]byte(text), []byte("?"), []byte{byte(c)}, 1))
		}
	}
	for i := range 1200 {
		check([]byte("[" + strconv.Itoa(i) + "]"))
	}
}

// TestTextsBesidePaths takes the texts of paths cut short, with more behind, and with one other byte.
func TestTextsBesidePaths(t *testing.T) {
	paths := drawnPaths(200)
	for _, text := range goodPaths {
		paths = append(paths, way(text))
	}
	for _, p := range paths {
		text := []byte(wayText(p))
		for cut := range text {
			readsJustPath(t, text[:cut])
			readsJustPath(t, text[cut:])
		}
		for _, more := range []string{".", "[", "]", "a", "0", ".a", "[0]", " ", string(text)} {
			readsJustPath(t, append(bytes.Clone(text), more...))
			readsJustPath(t, append([]byte(more), text...))
		}
		for at := range text {
			for _, c := range []byte(".[]0149-aAz {") {
				other := bytes.Clone(text)
				other[at] = c
				readsJustPath(t, other)
			}
		}
	}
}

// atByRule goes to a place by the value's own lists.
func atByRule(v impl.Value, p []impl.Step) (impl.Value, bool) {
	for _, s := range p {
		i := s.I
		if v.Kind == impl.VkMap && s.Kind == impl.StKey {
			i = slices.IndexFunc(v.K, func(key []byte) bool { return string(key) == string(s.Key) })
		} else if v.Kind != impl.VkList || s.Kind != impl.StItem {
			return impl.Value{}, false
		}
		if i < 0 || i >= len(v.L) {
			return impl.Value{}, false
		}
		v = v.L[i]
	}
	return v, true
}

// waysOfParts are the ways to all parts of v, each ahead of those to its own parts.
func waysOfParts(v impl.Value) [][]impl.Step {
	out := [][]impl.Step{nil}
	for i, x := range v.L {
		s := sItem(i)
		if v.Kind == impl.VkMap {
			s = sKey(string(v.K[i]))
		}
		for _, p := range waysOfParts(x) {
			out = append(out, append([]impl.Step{s}, p...))
		}
	}
	return out
}

func TestAt(t *testing.T) {
	v := vMap("a aa b c", vInt(1), vList(vText("x"), vMap("k", vList(vTrue, vNull)), vList()), vMap("a b", vMap(""), vUnknown), vText("kk"))
	for _, c := range []struct{ path, want string }{
		{"", textByRule(v)},
		{".a", "1"},
		{".aa", `["x", {k = [true, null]}, []]`},
		{".aa[0]", `"x"`},
		{".aa[1]", "{k = [true, null]}"},
		{".aa[1].k", "[true, null]"},
		{".aa[1].k[0]", "true"},
		{".aa[1].k[1]", "null"},
		{".aa[2]", "[]"},
		{".b", "{a = {}, b = ?}"},
		{".b.a", "{}"},
		{".b.b", "?"},
		{".c", `"kk"`},
	} {
		if got, ok := impl.At(v, way(c.path)); !ok || textByRule(got) != c.want {
			t.Errorf("%s: %s, %v", c.path, textByRule(got), ok)
		}
	}
	for _, path := range []string{
		".d", ".ab", ".k", ".abcdefgh", "[0]", "[3]", ".a.a", ".a[0]", ".aa[3]", ".aa[39]", ".aa.a", ".aa[0].k", ".aa[0][0]", ".aa[1].l", ".aa[1][0]",
		".aa[1].k[2]", ".aa[1].k.a", ".aa[1].k[1].a", ".aa[1].k[1][0]", ".aa[2][0]", ".aa[2].a", ".b.c", ".b[0]", ".b.a.a", ".b.a[0]", ".b.b.a", ".b.b[0]", ".c.k", ".c[0]", ".aa[1].k[0].a.b.c", ".d.e.f",
	} {
		if got, ok := impl.At(v, way(path)); ok || !alike(got, impl.Value{}) {
			t.Errorf("%s: %s, %v", path, textByRule(got), ok)
		}
	}
	if got, ok := impl.At(wide(40), way("[38]")); !ok || !alike(got, vNull) {
		t.Error("the last place", got, ok)
	}
	if got, ok := impl.At(wide(40), way("[39]")); ok {
		t.Error("behind the last place", got)
	}
}

func TestAtEachPart(t *testing.T) {
	for _, v := range append(goodValues(), drawnValues(300)...) {
		for _, p := range waysOfParts(v) {
			more := [][]impl.Step{p, append(slices.Clip(p), sKey("a")), append(slices.Clip(p), sItem(0)), append(slices.Clip(p), sItem(2), sKey("b"))}
			if len(p) > 0 {
				more = append(more, p[1:], append(slices.Clone(p[:len(p)-1]), sItem(1)), append(slices.Clone(p[:len(p)-1]), sKey("ab")))
			}
			for _, q := range more {
				want, is := atByRule(v, q)
				got, ok := impl.At(v, q)
				if ok != is || !alike(got, want) {
					t.Fatalf("At(%s, %s) = %s, %v", textByRule(v), wayText(q), textByRule(got), ok)
				}
			}
		}
	}
}

func TestAtWhatMayNotBe(t *testing.T) {
	for why, v := range badValues() {
		for _, path := range []string{"", ".a", "[0]", "[1]", ".a[0]"} {
			if got, ok := impl.At(v, way(path)); ok || !alike(got, impl.Value{}) {
				t.Error(why, path)
			}
		}
	}
}

func TestLeaves(t *testing.T) {
	for _, c := range []struct {
		v    impl.Value
		want []string
	}{
		{vNull, []string{""}},
		{vTrue, []string{""}},
		{vInt(-7), []string{""}},
		{vText("ab"), []string{""}},
		{vUnknown, []string{""}},
		{vList(), []string{""}},
		{vMap(""), []string{""}},
		{vList(vNull), []string{"[0]"}},
		{vMap("k", vNull), []string{".k"}},
		{vList(vNull, vTrue, vInt(3), vText("x"), vUnknown, vList(), vMap("")), []string{"[0]", "[1]", "[2]", "[3]", "[4]", "[5]", "[6]"}},
		{vMap("a aa b", vList(), vMap(""), vUnknown), []string{".a", ".aa", ".b"}},
		{vList(vList(vNull, vList()), vMap("a b", vMap("z", vNull), vList(vNull))), []string{"[0][0]", "[0][1]", "[1].a.z", "[1].b[0]"}},
		{vMap("a b", vList(vMap("k l", vNull, vList(vNull))), vTrue), []string{".a[0].k", ".a[0].l[0]", ".b"}},
		{deepLists(5), []string{"[0][0][0][0]"}},
		{deepMaps(5), []string{".k.k.k.k"}},
	} {
		if got := textsOfWays(impl.Leaves(c.v)); !slices.Equal(got, c.want) {
			t.Errorf("Leaves(%s) = %q", textByRule(c.v), got)
		}
	}
	if got := impl.Leaves(wide(40)); len(got) != 39 || wayText(got[38]) != "[38]" {
		t.Error(got)
	}
}

func textsOfWays(paths [][]impl.Step) []string {
	var out []string
	for _, p := range paths {
		out = append(out, wayText(p))
	}
	return out
}

func TestLeavesAreAllAndInOrder(t *testing.T) {
	for _, v := range append(goodValues(), drawnValues(2000)...) {
		var want []string
		for _, p := range waysOfParts(v) {
			if x, _ := atByRule(v, p); len(x.L) == 0 {
				want = append(want, wayText(p))
			}
		}
		leaves := impl.Leaves(v)
		if !slices.Equal(textsOfWays(leaves), want) || !slices.IsSortedFunc(leaves, impl.PathCmp) {
			t.Fatalf("Leaves(%s) = %q", textByRule(v), textsOfWays(leaves))
		}
		for _, p := range leaves {
			if x, ok := impl.At(v, p); !impl.PathOk(p) || !ok || impl.ValParts(x) != 1 {
				t.Fatalf("%s at %s", textByRule(v), wayText(p))
			}
		}
	}
}

func TestNoLeaves(t *testing.T) {
	for why, v := range badValues() {
		if got := impl.Leaves(v); len(got) != 0 {
			t.Error(why, got)
		}
	}
}
