package tests

import (
	"math"
	"strconv"
	"strings"
	"testing"

	"loop.example/g00407/impl"
)

// act takes addresses, parted by blanks, for Deps.
func act(what int, addr string, v impl.Value, deps string) impl.Act {
	return impl.Act{Act: what, Addr: []byte(addr), Item: -1, Val: v, Deps: keysOf(deps)}
}

// manyActs are so many that may be.
func manyActs(n int) []impl.Act {
	var out []impl.Act
	for i := range n {
		out = append(out, act(1+i%4, string(impl.AddrItem([]byte("a"), i%100)), vInt(i), ""))
	}
	return out
}

// goodPlans may be written.
func goodPlans() map[string]impl.Plan {
	v := vMap("kind x", vInt(1), vUnknown)
	out := map[string]impl.Plan{
		"none": {}, "none, with an empty list": {Acts: []impl.Act{}}, "Same of 1": {Same: 1}, "Same of MaxEntries": {Same: impl.MaxEntries},
		"create": {Acts: []impl.Act{act(impl.AcCreate, "a", v, "")}}, "update": {Acts: []impl.Act{act(impl.AcUpdate, "a[1]", v, "b")}}, "replace": {Acts: []impl.Act{act(impl.AcReplace, `a["k"]`, v, "b c")}}, "delete": {Acts: []impl.Act{act(impl.AcDelete, "a", impl.Value{}, "")}},
		"delete with a value": {Acts: []impl.Act{act(impl.AcDelete, "a", v, "b")}}, "all, and Same": {Acts: []impl.Act{act(1, "a", v, ""), act(2, "b", v, "a"), act(3, "c", v, "a b"), act(4, "d", v, "")}, Same: 7},
		"one address twice": {Acts: []impl.Act{act(1, "a", v, ""), act(4, "a", v, "")}}, "2 MaxEntries": {Acts: manyActs(32), Same: 16}, "one fewer": {Acts: manyActs(31)},
		"Deps that are none": {Acts: []impl.Act{{Act: 1, Addr: []byte("a"), Item: 99, Deps: [][]byte{nil, []byte("A"), []byte("a"), []byte("a")}}}}, "more than MaxDeps": {Acts: []impl.Act{act(1, "a", v, manyKeys(9))}}, "Item far below": {Acts: []impl.Act{{Act: 2, Addr: []byte("a"), Item: math.MinInt}}}, "Item far above": {Acts: []impl.Act{{Act: 3, Addr: []byte("a"), Item: math.MaxInt}}},
		"MaxParts": {Acts: []impl.Act{act(1, "a", wide(40), "")}}, "MaxDeep": {Acts: []impl.Act{act(1, "a", deepMaps(5), "")}},
	}
	for i, v := range goodValues() {
		out["value "+strconv.Itoa(i)] = impl.Plan{Acts: []impl.Act{act(1+i%4, "a", v, "")}}
	}
	for _, c := range goodAddrs {
		out["at "+c.addr] = impl.Plan{Acts: []impl.Act{act(1, c.addr, v, ""), act(4, c.addr, vNull, "")}}
	}
	return out
}

// badPlans may not, each for one reason.
func badPlans() map[string]impl.Plan {
	v := vMap("x", vInt(1))
	a := act(1, "a", v, "")
	out := map[string]impl.Plan{
		"2 MaxEntries and one": {Acts: manyActs(33)}, "far more": {Acts: manyActs(5000), Same: 1}, "Same of -1": {Same: -1}, "Same of -1, with acts": {Acts: manyActs(3), Same: -1}, "Same of MaxEntries and one": {Acts: manyActs(3), Same: 17}, "Same far below": {Same: math.MinInt}, "Same far above": {Same: math.MaxInt},
	}
	for _, what := range []int{impl.AcNone, impl.AcDelete + 1, -1, math.MinInt, math.MaxInt} {
		out["act "+strconv.Itoa(what)] = impl.Plan{Acts: []impl.Act{act(what, "a", v, "")}}
		out["act "+strconv.Itoa(what)+" behind others"] = impl.Plan{Acts: []impl.Act{a, a, act(what, "b", v, "")}, Same: 3}
		out["act "+strconv.Itoa(what)+" ahead of others"] = impl.Plan{Acts: []impl.Act{act(what, "b", v, ""), a}}
	}
	for _, c := range badAddrs {
		out[c.why] = impl.Plan{Acts: []impl.Act{act(1, c.addr, v, "")}}
		out[c.why+" of one that is to go, behind others"] = impl.Plan{Acts: []impl.Act{a, act(4, c.addr, vNull, "")}}
	}
	for why, bad := range badValues() {
		out[why] = impl.Plan{Acts: []impl.Act{act(1, "a", bad, "")}}
		out[why+" of one that is to go"] = impl.Plan{Acts: []impl.Act{act(4, "a", bad, "")}}
		out[why+" behind others"] = impl.Plan{Acts: []impl.Act{a, act(3, "b", bad, "")}}
	}
	return out
}

// planTextByRule writes a plan that may be written.
func planTextByRule(p impl.Plan) string {
	var lines []string
	for _, a := range p.Acts {
		words := []string{strings.Fields("- create update replace delete")[a.Act], string(a.Addr), textByRule(a.Val)}
		if a.Act == impl.AcDelete {
			words = words[:2]
		}
		lines = append(lines, strings.Join(words, " "))
	}
	return strings.Join(append(lines, "keep "+strconv.Itoa(p.Same)), "\n") + "\n"
}

func TestPlanText(t *testing.T) {
	for why, p := range goodPlans() {
		if got := string(impl.PlanText(p)); got != planTextByRule(p) {
			t.Errorf("%s: %q", why, got)
		}
	}
	v := vMap("kind x", vInt(1), vUnknown)
	p := impl.Plan{Acts: []impl.Act{act(1, "a", v, "z"), act(2, "b[1]", vMap(""), ""), act(3, `c["k"]`, vText(`"`), ""), act(4, "d", v, "a")}, Same: 12}
	if got := string(impl.PlanText(p)); got != "create a {kind = 1, x = ?}\nupdate b[1] {}\nreplace c[\"k\"] \"\\\"\"\ndelete d\nkeep 12\n" {
		t.Errorf("%q", got)
	}
	for same := -3; same <= impl.MaxEntries+3; same++ {
		want := ""
		if 0 <= same && same <= 16 {
			want = "delete a\nkeep " + strconv.Itoa(same) + "\n"
		}
		if got := string(impl.PlanText(impl.Plan{Acts: []impl.Act{act(4, "a", vNull, "")}, Same: same})); got != want {
			t.Errorf("%d: %q", same, got)
		}
	}
	for n := range 40 {
		if got := string(impl.PlanText(impl.Plan{Acts: manyActs(n)})); (got != "") != (n <= 32) || got != "" && strings.Count(got, "\n") != n+1 {
			t.Errorf("%d: %q", n, got)
		}
	}
}

// TestPlansThatMayNotBe: PlanText is nothing, Asks 0, Only the zero value and false.
func TestPlansThatMayNotBe(t *testing.T) {
	for why, p := range badPlans() {
		if got := impl.PlanText(p); len(got) != 0 {
			t.Errorf("%s: %q", why, got)
		}
		if got := impl.Asks(p); got != 0 {
			t.Error(why, got)
		}
		for _, addr := range []string{"a", "b", "none", "", "A"} {
			if got, ok := impl.Only(p, []byte(addr)); ok || !alike(got, impl.Plan{}) {
				t.Error(why, addr, got)
			}
		}
	}
}

func TestAsks(t *testing.T) {
	for why, p := range goodPlans() {
		if got := impl.Asks(p); got != len(p.Acts) {
			t.Error(why, got)
		}
	}
	for n := range 40 {
		want := n
		if n > 32 {
			want = 0
		}
		if got := impl.Asks(impl.Plan{Acts: manyActs(n), Same: n % 17}); got != want {
			t.Error(n, got)
		}
	}
}

// planFrom reads a plan as the tests write it: `a b>a,c`, each with those that it needs.
func planFrom(text string) impl.Plan {
	p := impl.Plan{Same: 3}
	for i, word := range strings.Fields(text) {
		addr, deps, _ := strings.Cut(word, ">")
		x := act(1+i%4, addr, vMap("n", vInt(i)), strings.ReplaceAll(deps, ",", " "))
		x.Item = i
		p.Acts = append(p.Acts, x)
	}
	return p
}

// placesIn tells which of the first plan's acts the second one has, by their places.
func placesIn(p impl.Plan, q impl.Plan) string {
	var out []string
	at := 0
	for _, a := range q.Acts {
		for at < len(p.Acts) && !alike(p.Acts[at], a) {
			at++
		}
		if at == len(p.Acts) {
			return "another act: " + actText(a)
		}
		out = append(out, strconv.Itoa(at))
		at++
	}
	return strings.Join(out, " ")
}

func TestOnly(t *testing.T) {
	for _, c := range [][3]string{
		{"", "a", ""}, {"a", "a", "0"}, {"a", "b", ""}, {"a b c", "b", "1"}, {"a b c", "d", ""}, {"a b c", "", ""}, {"a b c", "A", ""}, {"a[0] a b", "a", "1"}, {`a["k"] a[1] a`, "a[1]", "1"}, {"ab a", "a", "1"},
		// What it needs, and what that needs.
		{"a b>a c", "b", "0 1"}, {"a b>a c", "a", "0"}, {"a b>a c>b d>c e", "d", "0 1 2 3"}, {"a b>a c>b d>c e", "c", "0 1 2"}, {"a b c>a,b d", "c", "0 1 2"}, {"a b c>a,b d>c,a e>b", "e", "1 4"}, {"a b>a c>a d>b,c", "d", "0 1 2 3"},
		// Deps that no act has.
		{"a b>z c", "b", "1"}, {"a b>a,z c", "b", "0 1"}, {"b>z c", "z", ""},
		// Deps that name an act behind: that does not stay by it.
		{"a>b b", "a", "0"}, {"a>b b", "b", "1"}, {"a>c b>a c", "b", "0 1"}, {"a>c b>a c", "a", "0"}, {"a>b b>a", "b", "0 1"}, {"a>b b>a", "a", "0"}, {"a>c b c>b d>a", "d", "0 3"}, {"a>a b", "a", "0"}, {"a>a b>a", "b", "0 1"},
		// Two acts of one address.
		{"a b a", "a", "0 2"}, {"a b a", "b", "1"}, {"a a b>a", "b", "0 1 2"}, {"a b>a a", "b", "0 1"}, {"c a>c b a", "a", "0 1 3"}, {"a b>a a c>b", "c", "0 1 3"}, {"a b>a c>b b>z", "b", "0 1 3"}, {"a c a>c", "a", "0 1 2"}, {"c a c>a", "a", "1"}, {"c a c>a", "c", "0 1 2"},
		{"a b>a c d>b,c e>d f>a g>e,f h", "g", "0 1 2 3 4 5 6"}, {"a b>a c d>b,c e>d f>a g>e,f h", "f", "0 5"},
	} {
		p := planFrom(c[0])
		q, ok := impl.Only(p, []byte(c[1]))
		if got := placesIn(p, q); !ok || got != c[2] || q.Same != 3 {
			t.Errorf("%s of %s: %s, wanted %s", c[1], c[0], got, c[2])
		}
	}
	// Each act of a plan stays as it is, and so does Same, whatever it is.
	for why, p := range goodPlans() {
		for _, a := range p.Acts {
			q, ok := impl.Only(p, a.Addr)
			if got := placesIn(p, q); !ok || q.Same != p.Same || got == "" || strings.HasPrefix(got, "another") {
				t.Error(why, string(a.Addr), got)
			}
		}
		if q, ok := impl.Only(p, []byte("nowhere")); !ok || !alike(q, impl.Plan{Same: p.Same}) {
			t.Error(why, q)
		}
	}
}
