package tests

import (
	"strings"
	"testing"

	"loop.example/g00407/impl"
)

// restored tells what RestoreOf tells.
func restored(s impl.State, old impl.State) string {
	p, ok := impl.RestoreOf(s, old)
	switch {
	case ok:
		return planText(p)
	case !alike(p, impl.Plan{}):
		return "a plan beside a false"
	}
	return "false"
}

// restores fails where what makes the second of one is not what stands behind both; entries are parted by bars.
func restores(t *testing.T, table [][3]string) {
	t.Helper()
	split := func(text string) impl.State {
		if text == "" {
			return impl.State{}
		}
		return there(strings.Split(text, " | ")...)
	}
	for _, c := range table {
		if got := restored(split(c[0]), split(c[1])); got != c[2] {
			t.Errorf("%s to %s: %s, wanted %s", c[0], c[1], got, c[2])
		}
	}
}

// TestRestoreOfWhatMayNotBe: one of both, or both.
func TestRestoreOfWhatMayNotBe(t *testing.T) {
	some := there("a {id = 1}", "!b {} needs a")
	bad := calm(-1, false)
	for why, s := range badStates() {
		for _, got := range []string{restored(s, some), restored(some, s), restored(s, impl.State{}), restored(impl.State{}, s), restored(s, bad), restored(s, s)} {
			if got != "false" {
				t.Error(why, got)
			}
		}
	}
	for why, s := range goodStates() {
		for _, got := range []string{restored(s, some), restored(some, s), restored(s, s)} {
			if got == "false" {
				t.Error(why)
			}
		}
	}
}

func TestRestore(t *testing.T) {
	restores(t, [][3]string{
		{"", "", "keep 0"},
		// There alone in one of both.
		{"", "a {}", "create a {}; keep 0"}, {"", "a {id = 1}", "create a {}; keep 0"}, {"", "a {id = 1, kind = 2, x = [{id = 3}]}", "create a {kind = 2, x = [{id = 3}]}; keep 0"}, {"a {id = 1, x = 2}", "", "delete a; keep 0"}, {"a {x = 1} | c {}", "b {x = 1} | d {}", "create b {x = 1}; create d {}; delete a; delete c; keep 0"},
		// The same, but for id.
		{"a {}", "a {}", "keep 1"}, {"a {id = 1, x = 2}", "a {id = 1, x = 2}", "keep 1"}, {"a {id = 7, x = 2}", "a {id = 1, x = 2}", "keep 1"}, {"a {x = 2}", "a {id = 1, x = 2}", "keep 1"}, {"a {id = 1, x = 2}", "a {x = 2}", "keep 1"}, {"a {} | b {x = 1}", "a {id = 1} | b {id = 2, x = 1}", "keep 2"}, {"a {id = 1, kind = 1}", "a {kind = 1}", "keep 1"},
		// Different.
		{"a {id = 1, x = 2}", "a {id = 1, x = 3}", "update a {x = 3}; keep 0"}, {"a {id = 1}", "a {id = 2, x = 3}", "update a {x = 3}; keep 0"}, {"a {id = 1, x = 2}", "a {id = 1}", "update a {}; keep 0"}, {"a {x = {id = 1}}", "a {x = {id = 2}}", "update a {x = {id = 2}}; keep 0"}, {"a {kind = 1, x = 1}", "a {kind = 1, x = 2}", "update a {kind = 1, x = 2}; keep 0"},
		{"a {id = 1, kind = 1}", "a {id = 1, kind = 2}", "replace a {kind = 2}; keep 0"}, {"a {kind = 1}", "a {}", "replace a {}; keep 0"}, {"a {}", "a {kind = null}", "replace a {kind = null}; keep 0"}, {"a {kind = 1, x = 1}", "a {x = 1}", "replace a {x = 1}; keep 0"},
		// Taint counts where something is, not where something was.
		{"!a {id = 1, x = 2}", "a {id = 1, x = 2}", "replace a {x = 2}; keep 0"}, {"!a {x = 2}", "a {x = 3}", "replace a {x = 3}; keep 0"}, {"a {id = 1, x = 2}", "!a {id = 1, x = 2}", "keep 1"}, {"!a {}", "!a {}", "replace a {}; keep 0"}, {"", "!a {}", "create a {}; keep 0"}, {"!a {}", "", "delete a; keep 0"},
	})
}

// TestRestoreInOrder: each behind what it needed then.
func TestRestoreInOrder(t *testing.T) {
	restores(t, [][3]string{
		{"", "a {} | b {} | c {}", "create a {}; create b {}; create c {}; keep 0"}, {"", "a {} needs b | b {} needs c | c {}", "create c {}; create b {} needs c; create a {} needs b; keep 0"}, {"", "a {} needs c | b {} | c {}", "create b {}; create c {}; create a {} needs c; keep 0"}, {"", "a {} needs b c | b {} | c {} | d {} needs a", "create b {}; create c {}; create a {} needs b c; create d {} needs a; keep 0"},
		{"", "a[10] {} needs a[2] | a[2] {} | b {}", "create a[2] {}; create a[10] {} needs a[2]; create b {}; keep 0"},
		// What now needs what plays no part, nor does what stays for the order of the others.
		{"a {} | b {} needs a | c {} needs b", "a {x = 1} needs b | b {x = 1} needs c | c {}", "update b {x = 1} needs c; update a {x = 1} needs b; keep 1"}, {"b {}", "a {} needs b | b {} needs c | c {}", "create c {}; create a {} needs b; keep 1"},
		// Deps of which old has no entry, even if there is one now.
		{"", "a {} needs q z | b {} needs a q", "create a {}; create b {} needs a; keep 0"}, {"q {}", "a {} needs q z | b {} needs a q", "create a {}; create b {} needs a; delete q; keep 0"}, {"", `a {} needs a[0] | b {} needs a["k"] b[1]`, "create a {}; create b {}; keep 0"},
		// Rings among them, and what is behind rings, last.
		{"", "a {} needs a | b {}", "create b {}; create a {} needs a; keep 0"}, {"", "a {} needs b | b {} needs a | c {}", "create c {}; create a {} needs b; create b {} needs a; keep 0"}, {"", "a {} needs c | b {} needs b | c {} needs b | d {} needs e | e {}", "create e {}; create d {} needs e; create a {} needs c; create b {} needs b; create c {} needs b; keep 0"},
		{"", "b {} needs a c | c {} needs b | a {}", "create a {}; create b {} needs a c; create c {} needs b; keep 0"},
		// A ring by one that old does not have is none.
		{"", "a {} needs b | c {} needs a", "create a {}; create c {} needs a; keep 0"},
		// What goes, goes last, in its own order.
		{"x {} needs w | w {} | a {}", "a {x = 1} needs b w | b {}", "create b {}; update a {x = 1} needs b; delete x; delete w; keep 0"}, {"w {} needs x | x {} needs w | v {} needs u | u {}", "a {}", "create a {}; delete v; delete u; delete w; delete x; keep 0"}, {"w {} needs a | a {} needs w", "a {}", "delete w; keep 1"},
	})
	// MaxEntries of each.
	many, others := calm(3, false, manyEntries(16)...), impl.State{Serial: 3}
	for _, x := range manyEntries(16) {
		x.Addr = append([]byte("z"), x.Addr...)
		others.Entries = append(others.Entries, x)
	}
	if p, ok := impl.RestoreOf(many, others); !ok || impl.Asks(p) != 32 || p.Same != 0 {
		t.Error(planText(p))
	}
	if p, ok := impl.RestoreOf(many, many); !ok || impl.Asks(p) != 0 || p.Same != 16 {
		t.Error(planText(p))
	}
	// Attributes may be as great as values may be: nothing is refused for its size.
	for _, v := range []impl.Value{wideMap(40), deepMaps(5)} {
		if p, ok := impl.RestoreOf(impl.State{}, calm(3, false, entry("a", 1, v, ""))); !ok || len(p.Acts) != 1 || !alike(p.Acts[0], impl.Act{Act: impl.AcCreate, Addr: []byte("a"), Item: -1, Val: v}) {
			t.Error(planText(p))
		}
	}
	// What is open, under way and turned plays no part.
	x, y := entry("a", 1, vMap("x", vInt(1)), ""), entry("a", 7, vMap("x", vInt(1)), "")
	for _, s := range []impl.State{calm(9, true, y), busy(9, "a", impl.AcDelete, y), busy(9, "b", impl.AcCreate, y), calm(impl.MaxSerial, false, y)} {
		if got := restored(s, calm(1, false, x)) + ", " + restored(calm(1, false, x), s); got != "keep 1, keep 1" {
			t.Error(got)
		}
	}
}
