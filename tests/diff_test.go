package tests

import (
	"slices"
	"strings"
	"testing"

	"loop.example/g00407/impl"
)

// goes, comes and turns are changes with Had alone, Has alone, both.
func goes(path string, old impl.Value) impl.Change {
	return impl.Change{Path: way(path), Had: true, Old: old}
}

func comes(path string, now impl.Value) impl.Change {
	return impl.Change{Path: way(path), Has: true, New: now}
}

func turns(path string, old impl.Value, now impl.Value) impl.Change {
	return impl.Change{Path: way(path), Had: true, Old: old, Has: true, New: now}
}

// changeText writes a change by the rule.
func changeText(x impl.Change) string {
	out := wayText(x.Path)
	if x.Had {
		out += " - " + textByRule(x.Old)
	}
	if x.Has {
		out += " + " + textByRule(x.New)
	}
	return out
}

func changeTexts(l []impl.Change) []string {
	var out []string
	for _, x := range l {
		out = append(out, changeText(x))
	}
	return out
}

// turnedByRule has all changes the other way round.
func turnedByRule(l []impl.Change) []impl.Change {
	var out []impl.Change
	for _, x := range l {
		out = append(out, impl.Change{Path: x.Path, Had: x.Has, Old: x.New, Has: x.Had, New: x.Old})
	}
	return out
}

func sameByRule(a impl.Value, b impl.Value) bool { return bytesByRule(a) == bytesByRule(b) }

// diffByRule tells what differs by going along both values' own lists.
func diffByRule(a impl.Value, b impl.Value, path []impl.Step) []impl.Change {
	if sameByRule(a, b) {
		return nil
	}
	var out []impl.Change
	next := func(s impl.Step) []impl.Step { return append(slices.Clone(path), s) }
	switch {
	case a.Kind == impl.VkList && b.Kind == impl.VkList && len(a.L) == len(b.L):
		for i := range a.L {
			out = append(out, diffByRule(a.L[i], b.L[i], next(sItem(i)))...)
		}
	case a.Kind == impl.VkMap && b.Kind == impl.VkMap:
		i, j := 0, 0
		for i < len(a.K) || j < len(b.K) {
			switch {
			case j == len(b.K) || i < len(a.K) && string(a.K[i]) < string(b.K[j]):
				out = append(out, impl.Change{Path: next(sKey(string(a.K[i]))), Had: true, Old: a.L[i]})
				i++
			case i == len(a.K) || string(a.K[i]) > string(b.K[j]):
				out = append(out, impl.Change{Path: next(sKey(string(b.K[j]))), Has: true, New: b.L[j]})
				j++
			default:
				out = append(out, diffByRule(a.L[i], b.L[j], next(sKey(string(a.K[i]))))...)
				i++
				j++
			}
		}
	default:
		out = []impl.Change{{Path: path, Had: true, Old: a, Has: true, New: b}}
	}
	return out
}

// patchByRule does changes that may be to a value that may be.
func patchByRule(v impl.Value, l []impl.Change) (impl.Value, bool) {
	for _, x := range l {
		now, ok := putByRule(v, x, x.Path)
		if !ok {
			return impl.Value{}, false
		}
		v = now
	}
	if partsByRule(v) > impl.MaxParts || deepByRule(v) > impl.MaxDeep {
		return impl.Value{}, false
	}
	return v, true
}

func putByRule(v impl.Value, x impl.Change, left []impl.Step) (impl.Value, bool) {
	if len(left) == 0 {
		return x.New, x.Had && sameByRule(v, x.Old)
	}
	s, last := left[0], len(left) == 1
	v = impl.Value{Kind: v.Kind, N: v.N, S: v.S, K: slices.Clone(v.K), L: slices.Clone(v.L)}
	i, there := s.I, s.Kind == impl.StItem && v.Kind == impl.VkList && s.I < len(v.L)
	if s.Kind == impl.StKey && v.Kind == impl.VkMap {
		i, there = slices.BinarySearchFunc(v.K, s.Key, func(a, b []byte) int { return strings.Compare(string(a), string(b)) })
		if last && !there && !x.Had {
			v.K = slices.Insert(v.K, i, s.Key)
			v.L = slices.Insert(v.L, i, x.New)
			return v, true
		}
	}
	if !there {
		return impl.Value{}, false
	}
	if last && x.Had && !x.Has && sameByRule(v.L[i], x.Old) {
		v.K = slices.Delete(v.K, i, i+1)
		v.L = slices.Delete(v.L, i, i+1)
		return v, true
	}
	if last && !(x.Had && x.Has) {
		return impl.Value{}, false
	}
	now, ok := putByRule(v.L[i], x, left[1:])
	v.L[i] = now
	return v, ok
}

// near draws a value that has much of v.
func (d *draw) near(v impl.Value, depth int) impl.Value {
	if len(v.L) == 0 || d.upTo(8) == 0 {
		return d.value(depth)
	}
	out := impl.Value{Kind: v.Kind}
	for i, x := range v.L {
		if v.Kind == impl.VkMap && d.upTo(5) == 0 || d.upTo(20) == 0 {
			continue
		}
		if d.upTo(3) == 0 {
			x = d.near(x, depth-1)
		}
		if v.Kind == impl.VkMap {
			out.K = append(out.K, v.K[i])
		}
		out.L = append(out.L, x)
	}
	return out
}

// drawnPairs are so many pairs of values that may be, most of which have much in common.
func drawnPairs(n int) [][2]impl.Value {
	d := draw(n)
	var out [][2]impl.Value
	for len(out) < n {
		v := d.value(5)
		a, b := d.near(v, 5), d.near(v, 5)
		if partsByRule(a) <= impl.MaxParts && partsByRule(b) <= impl.MaxParts {
			out = append(out, [2]impl.Value{a, b})
		}
	}
	return out
}

// manyPairs are those, and all pairs of the values that are told one by one.
func manyPairs(n int) [][2]impl.Value {
	out := drawnPairs(n)
	for _, a := range goodValues() {
		for _, b := range goodValues() {
			out = append(out, [2]impl.Value{a, b})
		}
	}
	for _, a := range ascendingValues {
		for _, b := range ascendingValues {
			out = append(out, [2]impl.Value{a, b})
		}
	}
	return out
}

func TestDiff(t *testing.T) {
	for _, c := range []struct {
		why  string
		a, b impl.Value
		want []string
	}{
		{"alike nulls", vNull, vNull, nil},
		{"alike unknowns", vUnknown, vUnknown, nil},
		{"alike lists", vList(vInt(1), vMap("a", vNull)), vList(vInt(1), vMap("a", vNull)), nil},
		{"alike maps", vMap("a b", vInt(1), vList(vNull)), vMap("a b", vInt(1), vList(vNull)), nil},
		{"bools", vFalse, vTrue, []string{" - false + true"}},
		{"ints", vInt(1), vInt(-1), []string{" - 1 + -1"}},
		{"texts", vText("a"), vText("b"), []string{` - "a" + "b"`}},
		{"kinds", vInt(0), vFalse, []string{" - 0 + false"}},
		{"null and unknown", vNull, vUnknown, []string{" - null + ?"}},
		{"a list and a map", vList(), vMap(""), []string{" - [] + {}"}},
		{"a map and a list", vMap("a", vNull), vList(vNull), []string{" - {a = null} + [null]"}},
		{"a list and a null", vList(vNull), vNull, []string{" - [null] + null"}},
		{"lists of the same length", vList(vInt(1), vInt(2), vInt(3)), vList(vInt(1), vInt(5), vInt(6)), []string{"[1] - 2 + 5", "[2] - 3 + 6"}},
		{"the first and the last", vList(vNull, vTrue, vNull), vList(vInt(1), vTrue, vInt(2)), []string{"[0] - null + 1", "[2] - null + 2"}},
		{"a longer list", vList(vInt(1)), vList(vInt(1), vInt(2)), []string{" - [1] + [1, 2]"}},
		{"a shorter list", vList(vInt(1), vInt(2)), vList(vInt(2)), []string{" - [1, 2] + [2]"}},
		{"an empty list", vList(), vList(vNull), []string{" - [] + [null]"}},
		{"all keys go", vMap("a b", vInt(1), vNull), vMap(""), []string{".a - 1", ".b - null"}},
		{"all keys come", vMap(""), vMap("a b", vInt(1), vNull), []string{".a + 1", ".b + null"}},
		{"keys of one alone at the beginning", vMap("a b c", vInt(1), vInt(2), vInt(3)), vMap("c", vInt(3)), []string{".a - 1", ".b - 2"}},
		{"keys of the other alone at the beginning", vMap("c", vInt(3)), vMap("a b c", vInt(1), vInt(2), vInt(3)), []string{".a + 1", ".b + 2"}},
		{"between", vMap("a c", vInt(1), vInt(3)), vMap("a b c", vInt(1), vInt(2), vInt(3)), []string{".b + 2"}},
		{"between, the other way", vMap("a b c", vInt(1), vInt(2), vInt(3)), vMap("a c", vInt(1), vInt(3)), []string{".b - 2"}},
		{"at the end", vMap("a", vInt(1)), vMap("a b c", vInt(1), vInt(2), vInt(3)), []string{".b + 2", ".c + 3"}},
		{"at the end, the other way", vMap("a b c", vInt(1), vInt(2), vInt(3)), vMap("a", vInt(1)), []string{".b - 2", ".c - 3"}},
		{"keys by turns", vMap("a c e", vInt(1), vInt(3), vInt(5)), vMap("b d f", vInt(2), vInt(4), vInt(6)), []string{".a - 1", ".b + 2", ".c - 3", ".d + 4", ".e - 5", ".f + 6"}},
		{"keys of each alone and of both", vMap("a b d", vInt(1), vInt(2), vInt(4)), vMap("b c d", vInt(3), vNull, vInt(4)), []string{".a - 1", ".b - 2 + 3", ".c + null"}},
		{"a key that another begins with", vMap("a", vNull), vMap("aa", vNull), []string{".a - null", ".aa + null"}},
		{"values that are null", vMap("a", vNull), vMap("a b", vNull, vNull), []string{".b + null"}},
		{"deep down", vMap("a", vList(vMap("b", vList(vInt(1), vInt(2))))), vMap("a", vList(vMap("b", vList(vInt(1), vInt(3))))), []string{".a[0].b[1] - 2 + 3"}},
		{"a key deep down", vList(vNull, vList(vMap("b", vNull))), vList(vNull, vList(vMap("a", vNull))), []string{"[1][0].a + null", "[1][0].b - null"}},
		{"a length deep down", vMap("a", vList(vList(vNull))), vMap("a", vList(vList())), []string{".a[0] - [null] + []"}},
		{"a kind deep down", vMap("a", vMap("b", vMap(""))), vMap("a", vMap("b", vList())), []string{".a.b - {} + []"}},
		{"deepest", deepLists(4, vNull), deepLists(4, vTrue), []string{"[0][0][0][0] - null + true"}},
		{"deepest in maps", vMap("k", vMap("k", vMap("k", vMap("k", vNull)))), vMap("k", vMap("k", vMap("k", vMap("l", vNull)))), []string{".k.k.k.k - null", ".k.k.k.l + null"}},
		{"several places", vMap("a b c", vList(vInt(1), vInt(2)), vMap("k", vNull), vTrue), vMap("a b d", vList(vInt(3), vInt(4)), vMap("l", vNull), vTrue), []string{".a[0] - 1 + 3", ".a[1] - 2 + 4", ".b.k - null", ".b.l + null", ".c - true", ".d + true"}},
		{"more than ten places", vList(slices.Repeat([]impl.Value{vNull}, 12)...), vList(append(slices.Repeat([]impl.Value{vNull}, 2), slices.Repeat([]impl.Value{vTrue}, 10)...)...), []string{"[2] - null + true", "[3] - null + true", "[4] - null + true", "[5] - null + true", "[6] - null + true", "[7] - null + true", "[8] - null + true", "[9] - null + true", "[10] - null + true", "[11] - null + true"}},
	} {
		l, ok := impl.Diff(c.a, c.b)
		if !ok || !slices.Equal(changeTexts(l), c.want) {
			t.Errorf("%s: %q, %v", c.why, changeTexts(l), ok)
		}
	}
}

// TestDiffAndPatch: done, what differs makes the other one; turned round, it goes back.
func TestDiffAndPatch(t *testing.T) {
	alone, both := 0, 0
	for _, pair := range manyPairs(6000) {
		a, b := pair[0], pair[1]
		what := textByRule(a) + " and " + textByRule(b)
		l, ok := impl.Diff(a, b)
		if !ok || !alike(l, diffByRule(a, b, nil)) || (len(l) == 0) != (impl.ValCmp(a, b) == 0) {
			t.Fatalf("%s: %q", what, changeTexts(l))
		}
		if !impl.ChangesOk(l) || !slices.IsSortedFunc(l, func(x, y impl.Change) int { return impl.PathCmp(x.Path, y.Path) }) {
			t.Fatalf("%s: %q may not be", what, changeTexts(l))
		}
		if made, ok := impl.Patch(a, l); !ok || !alike(made, b) {
			t.Fatalf("%s: made %s", what, textByRule(made))
		}
		back, ok := impl.Backward(l)
		if !ok || !alike(back, turnedByRule(l)) {
			t.Fatalf("%s: turned round %q", what, changeTexts(back))
		}
		if made, ok := impl.Patch(b, back); !ok || !alike(made, a) {
			t.Fatalf("%s: went back to %s", what, textByRule(made))
		}
		if again, ok := impl.Backward(back); !ok || !alike(again, l) {
			t.Fatalf("%s: turned twice %q", what, changeTexts(again))
		}
		texts := map[string]bool{}
		for _, x := range l {
			text := string(impl.ChangeText(x))
			if text != changeText(x) || texts[text] {
				t.Fatalf("%s: %q twice or not %q", what, text, changeText(x))
			}
			texts[text] = true
			if x.Had && x.Has {
				both++
			} else {
				alone++
			}
		}
	}
	if alone < 1000 || both < 1000 {
		t.Error("only", alone, "and", both)
	}
}

// begins tells whether p begins with the path ahead.
func begins(p []impl.Step, ahead []impl.Step) bool {
	return len(ahead) <= len(p) && cmpWays(p[:len(ahead)], ahead) == 0
}

// TestChangesSayWhatWasAndIs: of each place, and all other parts stay.
func TestChangesSayWhatWasAndIs(t *testing.T) {
	for _, pair := range manyPairs(1500) {
		a, b := pair[0], pair[1]
		l, _ := impl.Diff(a, b)
		made, _ := impl.Patch(a, l)
		for _, x := range l {
			was, had := impl.At(a, x.Path)
			is, has := impl.At(made, x.Path)
			if had != x.Had || has != x.Has || !alike(was, x.Old) || !alike(is, x.New) {
				t.Fatalf("%s: was %s, is %s", changeText(x), textByRule(was), textByRule(is))
			}
		}
		for _, p := range impl.Leaves(a) {
			named := slices.ContainsFunc(l, func(x impl.Change) bool { return begins(p, x.Path) || begins(x.Path, p) })
			was, _ := impl.At(a, p)
			if is, ok := impl.At(made, p); !named && (!ok || !alike(is, was)) {
				t.Fatalf("%s of %s did not stay", wayText(p), textByRule(a))
			}
		}
	}
}

func TestDiffOfWhatMayNotBe(t *testing.T) {
	for why, bad := range badValues() {
		for _, v := range []impl.Value{vNull, vMap("a", vNull), vList(vNull, vNull), bad} {
			if l, ok := impl.Diff(v, bad); ok || len(l) != 0 {
				t.Error(why, "as the second")
			}
			if l, ok := impl.Diff(bad, v); ok || len(l) != 0 {
				t.Error(why, "as the first")
			}
		}
	}
}

// TestGreatestDiff has as many changes as two maps can have.
func TestGreatestDiff(t *testing.T) {
	a, b := wideMap(impl.MaxParts), wideMap(impl.MaxParts)
	for i := range b.K {
		b.K[i] = append(b.K[i], 'x')
	}
	l, ok := impl.Diff(a, b)
	if !ok || len(l) != 2*(impl.MaxParts-1) || !impl.ChangesOk(l) {
		t.Fatal(len(l), ok)
	}
	// On the way there are up to twice as many parts as may be.
	if made, ok := impl.Patch(a, l); !ok || !alike(made, b) {
		t.Error(textByRule(made))
	}
	back, _ := impl.Backward(l)
	if made, ok := impl.Patch(b, back); !ok || !alike(made, a) {
		t.Error(textByRule(made))
	}
}

// goodChanges: changes that may be, done to something or not.
func goodChanges() map[string][]impl.Change {
	var all []impl.Change
	for i := range impl.MaxParts {
		all = append(all, goes(wayText([]impl.Step{sItem(i), sKey("a")}), vNull), turns(wayText([]impl.Step{sItem(i), sItem(i)}), vTrue, vFalse))
	}
	return map[string][]impl.Change{
		"none":                                nil,
		"none, not nil":                       {},
		"all of it":                           {turns("", vNull, vMap("a", vNull))},
		"nothing changes":                     {turns("", vNull, vNull)},
		"nothing changes at a key":            {turns(".a", vInt(1), vInt(1))},
		"goes":                                {goes(".a", vInt(1))},
		"a null goes":                         {goes(".a", vNull)},
		"comes":                               {comes(".a", vInt(1))},
		"a null comes":                        {comes(".a", vNull)},
		"turns":                               {turns(".a", vInt(1), vList())},
		"a place":                             {turns("[39]", vInt(1), vList())},
		"a key of a place":                    {comes("[39].a", vInt(1))},
		"a place of a key":                    {turns(".a[0]", vInt(1), vNull)},
		"MaxSteps":                            {comes(".a.b.c.d.e.f", vNull)},
		"MaxSteps of places":                  {turns("[0][0][0][0][0][0]", vNull, vNull)},
		"keys ahead of places":                {comes(".z", vNull), turns("[0]", vNull, vTrue)},
		"a key that the key ahead begins":     {comes(".a", vNull), comes(".aa", vNull)},
		"a place that the place ahead begins": {turns("[1]", vNull, vTrue), turns("[10]", vNull, vTrue)},
		"places by number":                    {turns("[2]", vNull, vTrue), turns("[10]", vNull, vTrue)},
		"a longer one ahead":                  {comes(".a.z", vNull), comes(".b", vNull)},
		"a longer one behind":                 {comes(".a", vNull), comes(".b.a.a", vNull)},
		"in one place":                        {comes(".k.a", vNull), goes(".k.b", vNull), turns(".k[0]", vNull, vNull), comes(".k[1].a", vNull)},
		"the greatest values":                 {turns(".a", wide(40), wideMap(40)), turns(".b", deepLists(5), deepMaps(5))},
		"2 MaxParts":                          all,
		"one behind two in one map":           {comes(".a.a", vNull), comes(".a.b", vNull), comes(".b", vNull)},
	}
}

// badChanges: changes that may not be, each for one reason.
func badChanges() map[string][]impl.Change {
	out := map[string][]impl.Change{
		"neither Had nor Has":            {{Path: way(".a")}},
		"neither Had nor Has, of a path": {{}},
		"neither, and one that is fine":  {comes(".a", vNull), {Path: way(".b")}},
		"all of it comes":                {comes("", vNull)},
		"all of it goes":                 {goes("", vNull)},
		"a place comes":                  {comes("[0]", vNull)},
		"a place goes":                   {goes("[0]", vNull)},
		"a place of a key comes":         {comes(".a[0]", vNull)},
		"a place of a key goes":          {goes(".a[0]", vNull)},
		"a place goes behind others":     {goes(".a", vNull), turns(".b", vNull, vTrue), goes(".c[1]", vNull)},
		"twice":                          {comes(".a", vNull), comes(".a", vNull)},
		"twice, going and coming":        {goes(".a", vInt(1)), comes(".a", vInt(2))},
		"twice a place":                  {turns("[1]", vNull, vTrue), turns("[1]", vTrue, vNull)},
		"twice all":                      {turns("", vNull, vTrue), turns("", vTrue, vNull)},
		"twice with one between":         {comes(".a", vNull), comes(".b", vNull), comes(".a", vNull)},
		"keys descend":                   {comes(".b", vNull), comes(".a", vNull)},
		"the longer key ahead":           {comes(".aa", vNull), comes(".a", vNull)},
		"places descend":                 {turns("[10]", vNull, vTrue), turns("[2]", vNull, vTrue)},
		"places ahead of keys":           {turns("[0]", vNull, vTrue), comes(".a", vNull)},
		"they descend at the end":        {comes(".a", vNull), comes(".c", vNull), comes(".b", vNull)},
		"they descend deep down":         {comes(".a[1].b", vNull), comes(".a[1].a", vNull)},
		"one begins with all":            {turns("", vNull, vTrue), comes(".a", vNull)},
		"one begins with a key":          {comes(".a", vNull), comes(".a.b", vNull)},
		"a place begins with a key":      {turns(".a", vNull, vTrue), turns(".a[0]", vNull, vTrue)},
		"one begins with a place":        {turns("[1]", vNull, vTrue), comes("[1].a", vNull)},
		"one begins with two steps":      {comes(".a.b", vNull), comes(".a.b.c.d", vNull)},
		"the last begins with the last":  {comes(".a", vNull), comes(".b.c", vNull), comes(".b.c.d", vNull)},
		"the one ahead begins with it":   {comes(".a.b", vNull), comes(".a", vNull)},
		"all of it behind another":       {comes(".a", vNull), turns("", vNull, vTrue)},
		"2 MaxParts + 1":                 append([]impl.Change{comes(".a", vNull)}, goodChanges()["2 MaxParts"]...),
	}
	for _, bad := range []struct {
		why string
		v   impl.Value
	}{{"a value that is not zero", vInt(1)}, {"another kind", vUnknown}, {"an empty list", vList()}, {"an empty map", vMap("")}, {"false", vFalse}, {"the empty text", vText("")}} {
		out[bad.why+" without Had"] = []impl.Change{{Path: way(".a"), Old: bad.v, Has: true, New: vNull}}
		out[bad.why+" without Has"] = []impl.Change{{Path: way(".a"), Had: true, Old: vNull, New: bad.v}}
		out[bad.why+" behind others"] = []impl.Change{comes(".a", vNull), {Path: way(".b"), Had: true, New: bad.v}}
	}
	for why, v := range badValues() {
		out[why+" as Old"] = []impl.Change{turns(".a", v, vNull)}
		out[why+" as New"] = []impl.Change{turns(".a", vNull, v)}
		out[why+" as Old alone"] = []impl.Change{goes(".a", v)}
		out[why+" as New alone"] = []impl.Change{comes(".a", v)}
		out[why+" as Old, without Had"] = []impl.Change{{Path: way(".a"), Old: v, Has: true}}
		out[why+" as New, without Has"] = []impl.Change{{Path: way(".a"), Had: true, New: v}}
		out[why+" behind others"] = []impl.Change{comes(".a", vNull), comes(".b", vNull), turns(".c", vNull, v)}
	}
	for why, p := range badPaths() {
		out[why+" in a path"] = []impl.Change{{Path: p, Had: true, Has: true}}
		out[why+" in the first path"] = []impl.Change{{Path: p, Had: true, Has: true}, turns("[39]", vNull, vNull)}
		out[why+" in the last path"] = []impl.Change{comes(".a", vNull), {Path: p, Had: true, Has: true}}
	}
	return out
}

func TestChangesThatMayBe(t *testing.T) {
	for why, l := range goodChanges() {
		if !impl.ChangesOk(l) {
			t.Error(why)
		}
		back, ok := impl.Backward(l)
		if !ok || !alike(back, turnedByRule(l)) || !impl.ChangesOk(back) {
			t.Error(why, "turned round", changeTexts(back))
		}
		for _, x := range l {
			if !impl.ChangesOk([]impl.Change{x}) || string(impl.ChangeText(x)) != changeText(x) {
				t.Errorf("%s: %s", why, impl.ChangeText(x))
			}
		}
	}
	if n := len(goodChanges()["2 MaxParts"]); n != 80 {
		t.Error(n)
	}
}

func TestChangesThatMayNotBe(t *testing.T) {
	for why, l := range badChanges() {
		if impl.ChangesOk(l) {
			t.Error(why)
		}
		if back, ok := impl.Backward(l); ok || len(back) != 0 {
			t.Error(why, "turned round")
		}
		for _, v := range []impl.Value{vNull, vMap(""), vMap("a", vNull), vMap("a", vInt(1)), vList(vNull, vNull)} {
			if made, ok := impl.Patch(v, l); ok || !alike(made, impl.Value{}) {
				t.Error(why, "done to", textByRule(v))
			}
		}
		if len(l) == 1 && len(impl.ChangeText(l[0])) != 0 {
			t.Error(why, "has a text")
		}
	}
	if n := len(badChanges()["2 MaxParts + 1"]); n != 81 {
		t.Error(n)
	}
	if far := slices.Repeat(goodChanges()["turns"], 100000); impl.ChangesOk(far) {
		t.Error("far too many")
	}
}

// TestEachOfThreeMayNotBe puts changes of two and three paths together in each order.
func TestEachOfThreeMayNotBe(t *testing.T) {
	paths := []string{"", ".a", ".a.b", ".a[0]", ".a[0].a", ".aa", ".b", "[0]", "[0].a", "[0][1]", "[1]", "[10]"}
	fits := func(a string, b string) bool {
		return cmpWays(way(a), way(b)) < 0 && !begins(way(b), way(a))
	}
	for _, a := range paths {
		for _, b := range paths {
			if impl.ChangesOk([]impl.Change{turns(a, vNull, vTrue), turns(b, vNull, vTrue)}) != fits(a, b) {
				t.Error(a, "and", b)
			}
			for _, c := range paths {
				if impl.ChangesOk([]impl.Change{turns(a, vNull, vTrue), turns(b, vNull, vTrue), turns(c, vNull, vTrue)}) != (fits(a, b) && fits(b, c)) {
					t.Error(a, "and", b, "and", c)
				}
			}
		}
	}
}

// TestJustOneOfThem: each of Had and Has with each path's end.
func TestJustOneOfThem(t *testing.T) {
	for _, path := range goodPaths {
		p := way(path)
		byKey := len(p) > 0 && p[len(p)-1].Kind == impl.StKey
		for _, c := range []struct{ had, has, ok bool }{{false, false, false}, {true, false, byKey}, {false, true, byKey}, {true, true, true}} {
			x := impl.Change{Path: p, Had: c.had, Has: c.has}
			if impl.ChangesOk([]impl.Change{x}) != c.ok || (len(impl.ChangeText(x)) > 0) != c.ok {
				t.Error(path, c)
			}
		}
	}
}

func TestPatch(t *testing.T) {
	v := vMap("a b c", vInt(1), vList(vText("x"), vMap("k", vTrue), vList()), vMap("k", vNull))
	for _, c := range []struct {
		why  string
		l    []impl.Change
		want string
	}{
		{"nothing", nil, `{a = 1, b = ["x", {k = true}, []], c = {k = null}}`},
		{"all of it", []impl.Change{turns("", v, vUnknown)}, "?"},
		{"turns", []impl.Change{turns(".a", vInt(1), vList())}, `{a = [], b = ["x", {k = true}, []], c = {k = null}}`},
		{"turns to itself", []impl.Change{turns(".a", vInt(1), vInt(1))}, `{a = 1, b = ["x", {k = true}, []], c = {k = null}}`},
		{"goes", []impl.Change{goes(".a", vInt(1))}, `{b = ["x", {k = true}, []], c = {k = null}}`},
		{"comes at the beginning", []impl.Change{comes(".aa", vNull)}, `{a = 1, aa = null, b = ["x", {k = true}, []], c = {k = null}}`},
		{"comes at the end", []impl.Change{comes(".z", vList(vNull))}, `{a = 1, b = ["x", {k = true}, []], c = {k = null}, z = [null]}`},
		{"a place", []impl.Change{turns(".b[0]", vText("x"), vMap(""))}, `{a = 1, b = [{}, {k = true}, []], c = {k = null}}`},
		{"the last place", []impl.Change{turns(".b[2]", vList(), vInt(3))}, `{a = 1, b = ["x", {k = true}, 3], c = {k = null}}`},
		{"a key of a place", []impl.Change{comes(".b[1].a", vInt(2)), goes(".b[1].k", vTrue)}, `{a = 1, b = ["x", {a = 2}, []], c = {k = null}}`},
		{"a null goes", []impl.Change{goes(".c.k", vNull)}, `{a = 1, b = ["x", {k = true}, []], c = {}}`},
		{"several", []impl.Change{goes(".a", vInt(1)), turns(".b[0]", vText("x"), vNull), turns(".b[1].k", vTrue, vFalse), comes(".c.j", vInt(7)), turns(".c.k", vNull, vInt(8)), comes(".d", vMap(""))}, `{b = [null, {k = false}, []], c = {j = 7, k = 8}, d = {}}`},
	} {
		if made, ok := impl.Patch(v, c.l); !ok || textByRule(made) != c.want {
			t.Errorf("%s: %s, %v", c.why, textByRule(made), ok)
		}
	}
	for why, l := range map[string][]impl.Change{
		"all of it is another one":            {turns("", vNull, vUnknown)},
		"Old is another one":                  {turns(".a", vInt(2), vInt(3))},
		"Old is of another kind":              {turns(".a", vText("1"), vInt(3))},
		"Old is what New is":                  {turns(".a", vInt(3), vInt(1))},
		"Old of what goes is another one":     {goes(".a", vInt(2))},
		"Old of what goes is null":            {goes(".a", vNull)},
		"Old is a part of it":                 {turns(".c", vMap(""), vNull)},
		"Old is more than it":                 {turns(".c", vMap("k l", vNull, vNull), vNull)},
		"Old of a place is another one":       {turns(".b[0]", vText("y"), vNull)},
		"a key comes that is there":           {comes(".a", vInt(2))},
		"a key comes that is there just so":   {comes(".a", vInt(1))},
		"a null comes that is there":          {comes(".c.k", vNull)},
		"a key goes that is not there":        {goes(".d", vNull)},
		"a key turns that is not there":       {turns(".d", vNull, vInt(1))},
		"a key of a place is not there":       {turns(".b[1].l", vNull, vInt(1))},
		"a place behind the last":             {turns(".b[3]", vNull, vInt(1))},
		"a place far behind the last":         {turns(".b[39]", vNull, vInt(1))},
		"a place of an empty list":            {turns(".b[2][0]", vNull, vInt(1))},
		"a place of a map":                    {turns(".c[0]", vNull, vInt(1))},
		"a place of the map itself":           {turns("[0]", vInt(1), vInt(2))},
		"a place of an int":                   {turns(".a[0]", vNull, vInt(1))},
		"a place of a text":                   {turns(".b[0][0]", vText("x"), vNull)},
		"a key of a list comes":               {comes(".b.k", vNull)},
		"a key of an empty list comes":        {comes(".b[2].k", vNull)},
		"a key of a list goes":                {goes(".b.k", vText("x"))},
		"a key of a list turns":               {turns(".b.k", vText("x"), vNull)},
		"a key of an int comes":               {comes(".a.k", vNull)},
		"a key of a null comes":               {comes(".c.k.k", vNull)},
		"a key of a text comes":               {comes(".b[0].k", vNull)},
		"a key in a key that is not there":    {comes(".d.k", vNull)},
		"a key far in what is not there":      {comes(".d.e.f.g.h.i", vNull)},
		"a key in a place that is not there":  {comes(".b[3].k", vNull)},
		"a way through an int":                {turns(".a.k.k", vNull, vTrue)},
		"a way through a list by a key":       {turns(".b.k[1]", vNull, vTrue)},
		"a way through a map by a place":      {turns(".c[0].k", vNull, vTrue)},
		"the first does not fit":              {goes(".a", vInt(2)), comes(".d", vNull)},
		"the last does not fit":               {goes(".a", vInt(1)), comes(".d", vNull), comes(".e.e", vNull)},
		"one in the middle does not fit":      {goes(".a", vInt(1)), comes(".b[1].k", vNull), comes(".d", vNull)},
		"just one of one map does not fit":    {comes(".c.j", vNull), comes(".c.k", vNull), comes(".c.l", vNull)},
		"just one of one list does not fit":   {turns(".b[0]", vText("x"), vNull), turns(".b[1]", vNull, vNull)},
		"a key that one that is there begins": {goes(".aa", vInt(1))},
		"a longer key than the one there":     {goes(".c.kk", vNull)},
		"Old is a list of what is there":      {turns(".a", vList(vInt(1)), vInt(1))},
		"Old is a map where there is a list":  {turns(".b", vMap("k", vText("x")), vNull)},
	} {
		if made, ok := impl.Patch(v, l); ok || !alike(made, impl.Value{}) {
			t.Errorf("%s: %s", why, textByRule(made))
		}
	}
}

func TestPatchOfWhatMayNotBe(t *testing.T) {
	for why, v := range badValues() {
		for _, l := range [][]impl.Change{nil, {turns("", vNull, vNull)}, {turns(".a", vNull, vTrue)}, {turns("[0]", vNull, vTrue)}, {comes(".z", vNull)}, {comes(".b", vNull), comes(".a", vNull)}} {
			if made, ok := impl.Patch(v, l); ok || !alike(made, impl.Value{}) {
				t.Error(why, changeTexts(l))
			}
		}
	}
}

func TestPatchAndParts(t *testing.T) {
	for parts := 2; parts <= impl.MaxParts; parts++ {
		m, room := wideMap(parts), impl.MaxParts-parts
		first := string(m.K[0])
		for _, c := range []struct {
			why string
			l   []impl.Change
			ok  bool
		}{
			{"comes", []impl.Change{comes(".zz", wide(max(room, 1)))}, room > 0},
			{"comes, one more", []impl.Change{comes(".zz", wide(room+1))}, false},
			{"turns", []impl.Change{turns("."+first, vInt(0), wide(room+1))}, true},
			{"turns, one more", []impl.Change{turns("."+first, vInt(0), wide(min(room+2, impl.MaxParts)))}, false},
			{"comes ahead of what goes", []impl.Change{comes(".a", wide(room+1)), goes("."+first, vInt(0))}, true},
			{"comes ahead of what goes, one more", []impl.Change{comes(".a", wide(min(room+2, impl.MaxParts))), goes("."+first, vInt(0))}, false},
			{"comes behind what goes", []impl.Change{goes("."+first, vInt(0)), comes(".zz", wide(room+1))}, true},
			{"comes behind what goes, one more", []impl.Change{goes("."+first, vInt(0)), comes(".zz", wide(min(room+2, impl.MaxParts)))}, false},
		} {
			made, ok := impl.Patch(m, c.l)
			want, fits := patchByRule(m, c.l)
			if fits != c.ok || ok != c.ok || !alike(made, want) || ok && impl.ValParts(made) != impl.MaxParts {
				t.Error(parts, c.why, impl.ValParts(made), ok)
			}
		}
	}
	// Far too many on the way, none too many at the end.
	v := vMap("b c", wide(20), wide(19))
	l := []impl.Change{comes(".a", wide(37)), goes(".b", wide(20)), goes(".c", wide(19))}
	if made, ok := impl.Patch(v, l); !ok || impl.ValParts(made) != 38 {
		t.Error(textByRule(made), ok)
	}
	both := []impl.Change{turns(".b", wide(20), wide(40)), turns(".c", wide(19), wide(40))}
	if made, ok := impl.Patch(v, both); ok || !alike(made, impl.Value{}) {
		t.Error(textByRule(made), ok)
	}
}

func TestPatchAndDepth(t *testing.T) {
	steps := []string{"", ".k", ".k.k", ".k.k.k", ".k.k.k.k"}
	for deep, path := range steps {
		v := deepMaps(deep + 1)
		for more := 1; more <= impl.MaxDeep; more++ {
			for what, x := range map[string]impl.Change{"turns": turns(path, vMap(""), deepLists(more)), "comes": comes(path+".j", deepMaps(more))} {
				want := deep + more
				if what == "comes" {
					want++
				}
				made, ok := impl.Patch(v, []impl.Change{x})
				if ok != (want <= impl.MaxDeep) || ok && impl.ValDeep(made) != want || !ok && !alike(made, impl.Value{}) {
					t.Error(what, path, more, textByRule(made), ok)
				}
			}
		}
	}
	// A deep place goes while another one comes.
	v := vMap("a", deepLists(4))
	if made, ok := impl.Patch(v, []impl.Change{goes(".a", deepLists(4)), comes(".b", deepMaps(4))}); !ok || impl.ValDeep(made) != 5 {
		t.Error(textByRule(made), ok)
	}
	if made, ok := impl.Patch(v, []impl.Change{goes(".a", deepLists(4)), comes(".b", deepMaps(5))}); ok {
		t.Error(textByRule(made), ok)
	}
}

// TestPatchByRule does the changes between two values to a third, and changes that were meddled with.
func TestPatchByRule(t *testing.T) {
	d := draw(5)
	fitted, refused := 0, 0
	for _, pair := range drawnPairs(4000) {
		a, b := pair[0], pair[1]
		l := diffByRule(a, b, nil)
		meddled := slices.Clone(l)
		for i := range meddled {
			switch d.upTo(8) {
			case 0:
				meddled[i].Old = d.value(2)
			case 1:
				meddled[i].New = d.value(2)
			case 2:
				meddled[i].Had = !meddled[i].Had
			case 3:
				meddled[i].Has, meddled[i].New = !meddled[i].Has, impl.Value{}
			}
		}
		some := slices.DeleteFunc(slices.Clone(l), func(impl.Change) bool { return d.upTo(2) == 0 })
		for _, changes := range [][]impl.Change{l, turnedByRule(l), meddled, some} {
			for _, v := range []impl.Value{a, b, d.near(a, 5)} {
				want, fits := impl.Value{}, false
				if impl.ValOk(v) && impl.ChangesOk(changes) {
					want, fits = patchByRule(v, changes)
				}
				made, ok := impl.Patch(v, changes)
				if ok != fits || !alike(made, want) {
					t.Fatalf("%s with %q: %s, %v", textByRule(v), changeTexts(changes), textByRule(made), ok)
				}
				if ok && len(changes) > 0 {
					fitted++
				}
				if !ok && impl.ChangesOk(changes) {
					refused++
				}
			}
		}
	}
	if fitted < 3000 || refused < 3000 {
		t.Error("only", fitted, "and", refused)
	}
}

func TestChangeText(t *testing.T) {
	for _, c := range []struct {
		x    impl.Change
		want string
	}{
		{goes(".a", vInt(1)), ".a - 1"},
		{comes(".a", vInt(-1)), ".a + -1"},
		{turns(".a", vInt(1), vInt(2)), ".a - 1 + 2"},
		{turns("", vNull, vUnknown), " - null + ?"},
		{turns("[0]", vText(`a"`), vText(" - + ")), `[0] - "a\"" + " - + "`},
		{comes("[39].abcdefgh", vMap("a b", vList(vTrue, vFalse), vMap(""))), "[39].abcdefgh + {a = [true, false], b = {}}"},
		{goes(".a[3].b", vList()), ".a[3].b - []"},
		{goes(".a.b.c.d.e.f", vNull), ".a.b.c.d.e.f - null"},
	} {
		if got := string(impl.ChangeText(c.x)); got != c.want {
			t.Errorf("%q, not %q", got, c.want)
		}
	}
}

func looseWay(p []impl.Step) []impl.Step {
	var out []impl.Step
	for _, s := range p {
		out = append(out, impl.Step{Kind: s.Kind, Key: roomyOf(s.Key, 'q'), I: s.I})
	}
	return roomyOf(out, sKey("behind"))
}

// looseChanges copies l with marked room behind each of its lists.
func looseChanges(l []impl.Change) []impl.Change {
	var out []impl.Change
	for _, x := range l {
		out = append(out, impl.Change{Path: looseWay(x.Path), Had: x.Had, Old: loose(x.Old), Has: x.Has, New: loose(x.New)})
	}
	return roomyOf(out, comes(".zzzzzzzz", vText("behind")))
}

// diffAnswers are all that the functions of differences say of these.
func diffAnswers(a impl.Value, b impl.Value, p []impl.Step, l []impl.Change) map[string][]any {
	out := map[string][]any{}
	tell := func(name string, answers ...any) { out[name] = answers }
	at, is := impl.At(a, p)
	tell("At", at, is)
	changes, ok := impl.Diff(a, b)
	tell("Diff", changes, ok)
	made, fine := impl.Patch(a, l)
	tell("Patch", made, fine)
	back, well := impl.Backward(l)
	tell("Backward", back, well)
	tell("Leaves", impl.Leaves(a))
	tell("PathText", impl.PathText(p))
	for i, x := range l {
		tell("ChangeText "+string(rune('0'+i)), impl.ChangeText(x))
	}
	tell("told", impl.PathOk(p), impl.ChangesOk(l), impl.PathCmp(p, way(".a[1]")), impl.PathCmp(way("[0]"), p))
	return out
}

// eachDiffCase calls with values, a path and changes, of which all, some or none may be.
func eachDiffCase(call func(a impl.Value, b impl.Value, p []impl.Step, l []impl.Change)) {
	for _, pair := range manyPairs(200)[:230] {
		l := diffByRule(pair[0], pair[1], nil)
		for _, path := range []string{"", ".a", "[1].b"} {
			call(pair[0], pair[1], way(path), l)
			call(pair[1], pair[0], way(path), l)
		}
	}
	v := vMap("a b", vInt(1), vList(vMap("k", vText("x")), vText("y")))
	for _, c := range badSteps {
		call(v, vNull, []impl.Step{sKey("b"), c.s}, []impl.Change{turns(".a", vInt(1), vText("z")), {Path: []impl.Step{c.s}, Had: true, Has: true}})
	}
	for _, c := range badAlone {
		if partsByRule(c.v) < 100 {
			call(v, c.v, way(".b[0]"), []impl.Change{goes(".a", vInt(1)), comes(".c", c.v)})
			call(c.v, v, way(".a"), []impl.Change{turns(".a", c.v, vText("x"))})
			call(vMap("a", c.v), v, way(".a"), []impl.Change{{Path: way(".a"), Old: c.v, Has: true, New: vText("x")}})
		}
	}
}

func TestDiffConventions(t *testing.T) {
	eachDiffCase(func(a impl.Value, b impl.Value, p []impl.Step, l []impl.Change) {
		plainly := diffAnswers(a, b, p, l)
		wideA, wideB, wideP, wideL := loose(a), loose(b), looseWay(p), looseChanges(l)
		given := []any{wideA, wideB, wideP, wideL}
		var answers map[string][]any
		for _, one := range given {
			stays(t, textByRuleOr(a), one, func() { answers = diffAnswers(wideA, wideB, wideP, wideL) })
		}
		for name, answer := range answers {
			newMemory(t, name+" of "+textByRuleOr(a), answer, given)
			for i := range answer {
				if !alike(answer[i], plainly[name][i]) {
					t.Errorf("%s of %s: the room behind a list plays a part", name, textByRuleOr(a))
				}
			}
		}
	})
}

func TestReadPathsAreNewMemory(t *testing.T) {
	for _, text := range goodPaths {
		b := roomyOf([]byte(text), 'q')
		var p []impl.Step
		stays(t, text, b, func() { p, _ = impl.PathRead(b) })
		newMemory(t, text, []any{p}, []any{b})
		for cut := range b {
			readsJustPath(t, b[:cut])
		}
	}
}

// TestSharedArgumentsComeApart: arguments may share memory with each other, answers may not.
func TestSharedArgumentsComeApart(t *testing.T) {
	one := vMap("k", vText("x"))
	a := vMap("a b c", vList(one, one), one, one)
	b := vMap("b c d", vList(one, one), vText("y"), one)
	p := way(".a[0].k")
	l, ok := impl.Diff(a, b)
	if !ok || len(l) != 4 {
		t.Fatal(changeTexts(l))
	}
	newMemory(t, "Diff", []any{l}, []any{a, b})
	same := []impl.Change{{Path: p[:1], Had: true, Old: a.L[0], Has: true, New: one}, {Path: way(".d"), Has: true, New: one}, {Path: way(".e"), Has: true, New: one}}
	made, ok := impl.Patch(a, same)
	if !ok || textByRule(made) != `{a = {k = "x"}, b = {k = "x"}, c = {k = "x"}, d = {k = "x"}, e = {k = "x"}}` {
		t.Fatal(textByRule(made))
	}
	newMemory(t, "Patch", []any{made}, []any{a, same})
	back, ok := impl.Backward(same)
	if !ok {
		t.Fatal(back)
	}
	newMemory(t, "Backward", []any{back}, []any{a, same})
	newMemory(t, "Leaves", []any{impl.Leaves(a)}, []any{a})
	key := []byte("k")
	got, ok := impl.At(a, []impl.Step{{Key: a.K[0]}, {Kind: impl.StItem}, {Key: key}})
	if !ok {
		t.Fatal(got)
	}
	newMemory(t, "At", []any{got}, []any{a, key})
}

// TestEmptyAndNilChanges: an empty list and nil are the same.
func TestEmptyAndNilChanges(t *testing.T) {
	zero := impl.Value{S: []byte{}, K: [][]byte{}, L: []impl.Value{}}
	full := []impl.Change{{Path: []impl.Step{{Key: []byte("a")}, {Kind: impl.StItem, Key: []byte{}}, {Key: []byte("b")}}, Had: true, Old: vNull, New: zero}}
	bare := []impl.Change{goes(".a[0].b", vNull)}
	v := vMap("a", vList(vMap("b", zero)))
	for _, l := range [][]impl.Change{full, bare} {
		back, ok := impl.Backward(l)
		if !ok || !alike(back, []impl.Change{comes(".a[0].b", vNull)}) {
			t.Error(changeTexts(back))
		}
		if made, ok := impl.Patch(v, l); !ok || textByRule(made) != "{a = [{}]}" {
			t.Error(textByRule(made))
		}
		if text := string(impl.ChangeText(l[0])); text != ".a[0].b - null" {
			t.Error(text)
		}
	}
	if impl.PathCmp(full[0].Path, bare[0].Path) != 0 || impl.PathCmp(nil, []impl.Step{}) != 0 {
		t.Error("paths")
	}
	if l, ok := impl.Diff(vNull, zero); !ok || len(l) != 0 {
		t.Error(changeTexts(l))
	}
	if made, ok := impl.Patch(zero, []impl.Change{{Path: []impl.Step{}, Had: true, Old: zero, Has: true, New: vTrue}}); !ok || !alike(made, vTrue) {
		t.Error(made)
	}
	if back, ok := impl.Backward(nil); !ok || len(back) != 0 {
		t.Error(back)
	}
	if made, ok := impl.Patch(v, []impl.Change{}); !ok || !alike(made, v) {
		t.Error(made)
	}
}

// TestDiffsHangOnNothingElse asks for the same again and again.
func TestDiffsHangOnNothingElse(t *testing.T) {
	a, b := wideMap(30), wideMap(30)
	for i := range b.K {
		if i%3 == 0 {
			b.K[i] = append(b.K[i], 'x')
		}
		b.L[i] = vInt(-i)
	}
	want := diffByRule(a, b, nil)
	for range 50 {
		l, ok := impl.Diff(a, b)
		if !ok || !alike(l, want) {
			t.Fatal(changeTexts(l))
		}
		if made, ok := impl.Patch(a, l); !ok || !alike(made, b) {
			t.Fatal(textByRule(made))
		}
		if leaves := impl.Leaves(a); !slices.IsSortedFunc(leaves, cmpWays) {
			t.Fatal(textsOfWays(leaves))
		}
	}
}
