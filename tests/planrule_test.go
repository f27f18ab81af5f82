package tests

import (
	"slices"
	"strconv"
	"strings"
	"testing"

	"loop.example/g00407/impl"
)

// The chapter once more, by its words: values are lists of names and parts, graphs are tables, and what is on a ring or behind one is told by its ways.

// wish is what the rule says of a one, or of an entry that is to be again.
type wish struct {
	addr  string
	item  int
	attrs impl.Value
	needs []string
	act   int
	value impl.Value
}

// fieldsByName are a map's parts by their keys.
func fieldsByName(v impl.Value) map[string]impl.Value {
	out := map[string]impl.Value{}
	for i, key := range v.K {
		out[string(key)] = v.L[i]
	}
	return out
}

// withByRule is a map with a part at a key; a part that is nil is not there.
func withByRule(v impl.Value, key string, x *impl.Value) impl.Value {
	fields := fieldsByName(v)
	delete(fields, key)
	if x != nil {
		fields[key] = *x
	}
	return mapByName(fields)
}

func knownInAll(v impl.Value) bool { return !strings.Contains(bytesOfKinds(v), "6") }

// kindDiffersByRule tells it of the attributes and what is there.
func kindDiffersByRule(attrs impl.Value, is impl.Value) bool {
	a, has := fieldsByName(attrs)["kind"]
	b, hasToo := fieldsByName(is)["kind"]
	switch {
	case !has && !hasToo:
		return false
	case has != hasToo:
		return true
	}
	return !knownInAll(a) || !knownInAll(b) || !sameByRule(a, b)
}

// decideByRule tells the act and the value of a wish, whose attributes are there.
func decideByRule(w wish, s impl.State) wish {
	at := findByRule(s, []byte(w.addr))
	w.value = withByRule(w.attrs, "id", &vUnknown)
	if at < 0 {
		w.act = impl.AcCreate
		return w
	}
	is := s.Entries[at]
	just := sameByRule(w.attrs, withByRule(is.Val, "id", nil))
	switch {
	case is.Taint || kindDiffersByRule(w.attrs, is.Val) && !just:
		w.act = impl.AcReplace
	case just && knownInAll(w.attrs):
		w.act, w.value = impl.AcNone, is.Val
	default:
		w.act = impl.AcUpdate
		if id, has := fieldsByName(is.Val)["id"]; has {
			w.value = withByRule(w.attrs, "id", &id)
		}
	}
	return w
}

// resByRule is what the resources of these names are, by the values of their ones.
func resByRule(l []impl.Item, insts []impl.Inst, names []string, values map[string]impl.Value) impl.Value {
	out := map[string]impl.Value{}
	for _, name := range names {
		at := placesOf(l, impl.ItRes)[name]
		list, byKey := vList(), map[string]impl.Value{}
		for _, one := range insts {
			if one.Item == at {
				list.L = append(list.L, values[string(one.Addr)])
				byKey[string(one.Key.S)] = values[string(one.Addr)]
			}
		}
		switch l[at].Many {
		case impl.MnOne:
			out[name] = list.L[0]
		case impl.MnCount:
			out[name] = list
		case impl.MnEach:
			out[name] = mapByName(byKey)
		}
	}
	return mapByName(out)
}

// wishesByRule are all ones in the order of their graph, with what is to be done; or a code and a number.
func wishesByRule(l []impl.Item, s impl.State) ([]wish, int, int) {
	if !configByRule(l) || !stateByRule(s) {
		return nil, impl.CfForm, 0
	}
	insts, code, item := instsByRule(l)
	if code != impl.CfWell {
		return nil, code, item
	}
	locals, _, _ := localsByRule(l)
	var uses [][]string
	for _, one := range insts {
		uses = append(uses, strings.Fields(usesByRule(l[one.Item])))
	}
	g := chosen(len(insts), func(e impl.Edge) bool {
		return slices.Contains(uses[e.To], string(l[insts[e.From].Item].Name))
	})
	_, any := waysByRule(g)
	for i, one := range insts {
		if any[i][i] {
			return nil, impl.CfRing, one.Item
		}
	}
	order, _ := orderOneByOne(g)
	var out []wish
	values := map[string]impl.Value{}
	for _, i := range order {
		w := wish{addr: string(insts[i].Addr), item: insts[i].Item}
		env := impl.Env{Locals: locals, Res: resByRule(l, insts, uses[i], values), Index: insts[i].Index, Key: insts[i].Key, Val: insts[i].Val}
		attrs := map[string]impl.Value{}
		for k, e := range l[w.item].Exprs {
			v, code := evalByRule(e, env)
			if code != impl.EvWell {
				return nil, impl.CfValue, w.item
			}
			attrs[string(l[w.item].Names[k])] = v
		}
		for _, e := range g.Edges {
			if e.To == i {
				w.needs = append(w.needs, string(insts[e.From].Addr))
			}
		}
		slices.Sort(w.needs)
		w.attrs = mapByName(attrs)
		if greatByRule(withByRule(w.attrs, "id", &vNull)) || len(w.needs) > 8 {
			return nil, impl.CfBig, w.item
		}
		w = decideByRule(w, s)
		values[w.addr] = w.value
		out = append(out, w)
	}
	return out, impl.CfWell, 0
}

// ringsLastByRule is the order of what is neither on a ring nor behind one, and then all else.
func ringsLastByRule(g impl.Graph) []int {
	_, any := waysByRule(g)
	var free, bound []int
	for v := range g.N {
		late := any[v][v]
		for u := range g.N {
			late = late || any[u][u] && any[u][v]
		}
		if late {
			bound = append(bound, v)
		} else {
			free = append(free, v)
		}
	}
	part := chosen(len(free), func(e impl.Edge) bool { return slices.Contains(g.Edges, impl.Edge{From: free[e.From], To: free[e.To]}) })
	order, _ := orderOneByOne(part)
	var out []int
	for _, i := range order {
		out = append(out, free[i])
	}
	return append(out, bound...)
}

// planByRule is the plan of wishes in their order.
func planByRule(wishes []wish, s impl.State) impl.Plan {
	var p impl.Plan
	wanted := map[string]bool{}
	for _, w := range wishes {
		wanted[w.addr] = true
		if w.act == impl.AcNone {
			p.Same++
			continue
		}
		p.Acts = append(p.Acts, impl.Act{Act: w.act, Addr: []byte(w.addr), Item: w.item, Val: w.attrs, Deps: keysOf(strings.Join(w.needs, " "))})
	}
	var left []impl.Entry
	for _, x := range s.Entries {
		if !wanted[string(x.Addr)] {
			left = append(left, x)
		}
	}
	g := chosen(len(left), func(e impl.Edge) bool {
		return slices.Contains(strings.Fields(texts(left[e.From].Deps)), string(left[e.To].Addr))
	})
	for _, i := range ringsLastByRule(g) {
		p.Acts = append(p.Acts, impl.Act{Act: impl.AcDelete, Addr: left[i].Addr, Item: -1})
	}
	return p
}

// restoreByRule is the plan that makes old of s; both must be ones that may be.
func restoreByRule(s impl.State, old impl.State) impl.Plan {
	g := chosen(len(old.Entries), func(e impl.Edge) bool {
		return slices.Contains(strings.Fields(texts(old.Entries[e.To].Deps)), string(old.Entries[e.From].Addr))
	})
	var wishes []wish
	for _, i := range ringsLastByRule(g) {
		x := old.Entries[i]
		w := wish{addr: string(x.Addr), item: -1, attrs: withByRule(x.Val, "id", nil)}
		for _, dep := range x.Deps {
			if findByRule(old, dep) >= 0 {
				w.needs = append(w.needs, string(dep))
			}
		}
		wishes = append(wishes, decideByRule(w, s))
	}
	return planByRule(wishes, s)
}

// outsByRule are the outputs, all wishes being there.
func outsByRule(l []impl.Item, wishes []wish) (impl.Value, int, int) {
	locals, _, _ := localsByRule(l)
	insts, _, _ := instsByRule(l)
	values, out := map[string]impl.Value{}, map[string]impl.Value{}
	for _, w := range wishes {
		values[w.addr] = w.value
	}
	for i, x := range l {
		if x.Kind != impl.ItOut {
			continue
		}
		v, code := evalByRule(x.Exprs[0], impl.Env{Locals: locals, Res: resByRule(l, insts, strings.Fields(usesByRule(x)), values)})
		if code != impl.EvWell {
			return impl.Value{}, impl.CfValue, i
		}
		out[string(x.Name)] = v
		if greatByRule(mapByName(out)) {
			return impl.Value{}, impl.CfBig, i
		}
	}
	return mapByName(out), impl.CfWell, 0
}

// wantedByRule are the entries that are wanted, by address.
func wantedByRule(wishes []wish) []impl.Entry {
	byAddr := map[string]impl.Entry{}
	var addrs []string
	for _, w := range wishes {
		byAddr[w.addr] = entry(w.addr, 0, w.value, strings.Join(w.needs, " "))
		addrs = append(addrs, w.addr)
	}
	slices.Sort(addrs)
	var out []impl.Entry
	for _, addr := range addrs {
		out = append(out, byAddr[addr])
	}
	return out
}

// staysByRule tells whether Only leaves the act at a place.
func staysByRule(p impl.Plan, addr string, at int) bool {
	mine := string(p.Acts[at].Addr)
	for i := at + 1; i < len(p.Acts) && mine != addr; i++ {
		for _, dep := range p.Acts[i].Deps {
			if string(dep) == mine && staysByRule(p, addr, i) {
				return true
			}
		}
	}
	return mine == addr
}

// plansByRule fails where the functions of the chapter do not tell what its words say; it tells PlanOf's code, and the plan.
func plansByRule(t *testing.T, l []impl.Item, s impl.State) (impl.Plan, int) {
	t.Helper()
	wishes, code, item := wishesByRule(l, s)
	var want impl.Plan
	var wantOuts impl.Value
	outsCode, outsItem := code, item
	if code == impl.CfWell {
		want = planByRule(wishes, s)
		wantOuts, outsCode, outsItem = outsByRule(l, wishes)
	}
	what := string(impl.ConfigText(l)) + " in " + statesText(s)
	p, gotCode, gotItem := impl.PlanOf(l, s)
	if gotCode != code || gotItem != item || !alike(p, want) {
		t.Fatalf("%s: PlanOf tells %s, %d, %d, wanted %s, %d, %d", what, planText(p), gotCode, gotItem, planText(want), code, item)
	}
	v, gotCode, gotItem := impl.OutsOf(l, s)
	if gotCode != outsCode || gotItem != outsItem || !alike(v, wantOuts) {
		t.Fatalf("%s: OutsOf tells %s, %d, %d, wanted %s, %d, %d", what, textByRule(v), gotCode, gotItem, textByRule(wantOuts), outsCode, outsItem)
	}
	all, gotCode, gotItem := impl.Wanted(l, s)
	if gotCode != code || gotItem != item || !alike(all, wantedByRule(wishes)) {
		t.Fatalf("%s: Wanted tells %s, %d, %d", what, wantedText(l, s), gotCode, gotItem)
	}
	textsByRule(t, p)
	return p, code
}

// textsByRule fails where PlanText, Asks and Only do not say of a plan that may be what their words say.
func textsByRule(t *testing.T, p impl.Plan) {
	t.Helper()
	if got := string(impl.PlanText(p)); got != planTextByRule(p) {
		t.Fatalf("%s: PlanText is %q", planText(p), got)
	}
	if got := impl.Asks(p); got != len(p.Acts) {
		t.Fatalf("%s: Asks is %d", planText(p), got)
	}
	addrs := []string{"none"}
	for _, a := range p.Acts {
		addrs = append(addrs, string(a.Addr))
	}
	for _, addr := range addrs {
		want := impl.Plan{Same: p.Same}
		for i, a := range p.Acts {
			if staysByRule(p, addr, i) {
				want.Acts = append(want.Acts, a)
			}
		}
		if got, ok := impl.Only(p, []byte(addr)); !ok || !alike(got, want) {
			t.Fatalf("%s: Only %s is %s, wanted %s", planText(p), addr, planText(got), planText(want))
		}
	}
}

// statesText tells the entries of a state.
func statesText(s impl.State) string {
	var out []string
	for _, x := range s.Entries {
		text := string(x.Addr) + " " + textByRule(x.Val) + " needs " + texts(x.Deps)
		if x.Taint {
			text = "!" + text
		}
		out = append(out, text)
	}
	return strings.Join(out, " | ")
}

// useForms are what an attribute that uses a resource is, by how many there are of that; plainForms what one is that uses none.
var useForms = [][]string{
	impl.MnOne:   {"%.id", "%.id", "%.a", "%.kind", "%", "len(%)", "[%.id, 1]", "%.id == 7", "{id = %.id}", "% == %"},
	impl.MnCount: {"%[0].id", "%[0].id", "%[index].id", "len(%)", "%", "%[0].a", "% == []", "true ? 1 : %", "0 < len(%) && %[0].id == 7"},
	impl.MnEach:  {"%.p.id", "%.p.id", `%["q"].a`, "len(%)", "keys(%)", "%", `has(%, "q")`, "vals(%)[0].id", `has(%, "p") ? %.p.a : 1`},
}
var plainForms = []string{"1", "1", "2", `"t"`, "index", "key", "val", "$i", "[1, 2]", "{id = 1}", "null", nulls(6)}
var flawedForms = []string{"foo()", "1 + true", nulls(38), nulls(39), nestedLists(4), nestedLists(5), "app", "web.id", "zone", "[net]", "db == 1"}

// scheme draws a configuration most of whose resources use those ahead of them in an order that is drawn.
func (d *draw) scheme() []impl.Item {
	names := strings.Fields("app db net web zone")
	d.shuffle(len(names), func(i, j int) { names[i], names[j] = names[j], names[i] })
	var many []int
	l := []impl.Item{itLocal("i", eInt(d.upTo(3)))}
	formed := func(ahead int) impl.Expr {
		form := plainForms[d.upTo(len(plainForms))]
		if d.upTo(60) == 0 {
			form = flawedForms[d.upTo(len(flawedForms))]
		} else if ahead > 0 && d.upTo(3) > 0 {
			k := d.upTo(ahead)
			forms := useForms[many[k]]
			form = strings.ReplaceAll(forms[d.upTo(len(forms))], "%", names[k])
		}
		return exprFrom(form)
	}
	size := 1 + d.upTo(len(names))
	for k := range size {
		x := impl.Item{Kind: impl.ItRes, Name: []byte(names[k]), Many: d.upTo(3), Names: append(keysOf("a"), d.someOf(2, "b", "kind", "size")...)}
		many = append(many, x.Many)
		switch x.Many {
		case impl.MnCount:
			x.By = exprFrom([]string{"0", "1", "2", "2", "3", "5", "$i + 1"}[d.upTo(7)])
		case impl.MnEach:
			x.By = exprFrom([]string{"{}", "{p = 1}", "{p = 1, q = $i}", "{p = 1, q = 2}", `{p = 3, q = "x", r = [$i]}`}[d.upTo(5)])
		}
		for range x.Names {
			x.Exprs = append(x.Exprs, formed(k))
		}
		l = append(l, x)
	}
	for _, name := range d.someOf(2, "o", "p", "id") {
		e := formed(size)
		if hasKinds := strings.ContainsAny(kindsIn(e), ":;<"); hasKinds && d.upTo(20) > 0 {
			e = eLocal("i")
		}
		l = append(l, itOut(string(name), e))
	}
	d.shuffle(len(l), func(i, j int) { l[i], l[j] = l[j], l[i] })
	return l
}

// settled is the state with all ones of l as they are once all is done, or as far as they come to be.
func settled(l []impl.Item) impl.State {
	s := impl.State{Serial: 9}
	wishes, _, _ := wishesByRule(l, s)
	for i := range wishes {
		now, code, _ := wishesByRule(l, s)
		if code != impl.CfWell || !knownInAll(now[i].attrs) {
			break
		}
		id := vInt(10 + i)
		v := withByRule(now[i].attrs, "id", &id)
		s = putByAddr(s, entry(now[i].addr, 1+i%9, v, strings.Join(now[i].needs, " ")))
	}
	return s
}

// shaken is s with some entries changed, gone, tainted or needing others, and some more.
func (d *draw) shaken(s impl.State) impl.State {
	var out impl.State
	out.Serial = s.Serial
	addrs := []string{"app", "db[0]", "net", "old", "older", `web["p"]`, "zone", "zone[1]"}
	for _, x := range s.Entries {
		change := []impl.Value{vInt(d.upTo(3)), vText("t"), vNull, vList(vInt(1), vInt(2))}[d.upTo(4)]
		key := []string{"a", "b", "id", "kind", "size"}[d.upTo(5)]
		switch d.upTo(12) {
		case 0:
			continue
		case 1:
			x.Taint = true
		case 2, 3:
			x.Val = withByRule(x.Val, key, &change)
		case 4:
			x.Val = withByRule(x.Val, key, nil)
		case 5:
			x.Deps = d.someOf(3, addrs...)
		}
		out.Entries = append(out.Entries, x)
	}
	for _, addr := range d.someOf(3, addrs...) {
		if len(out.Entries) < 16 && findByRule(out, addr) < 0 && d.upTo(2) == 0 {
			x := entry(string(addr), 1, d.few(), "")
			x.Deps, x.Taint = d.someOf(4, addrs...), d.upTo(5) == 0
			out = putByAddr(out, x)
		}
	}
	return out
}

// drawnSchemes are so many configurations that may be, each with a state that is as it wants, one that is near that, and none.
func drawnSchemes(n int) func(yield func(l []impl.Item, s impl.State) bool) {
	return func(yield func(l []impl.Item, s impl.State) bool) {
		d := draw(n + 5)
		for range n {
			l := d.scheme()
			if !configByRule(l) {
				continue
			}
			s := settled(l)
			for _, s := range []impl.State{{}, s, d.shaken(s), d.shaken(s)} {
				if !yield(l, s) {
					return
				}
			}
		}
	}
}

// TestDrawnPlansByRule: each code and each act comes often enough to tell something.
func TestDrawnPlansByRule(t *testing.T) {
	codes, acts, same, calm := map[int]int{}, map[int]int{}, 0, 0
	for l, s := range drawnSchemes(1500) {
		p, code := plansByRule(t, l, s)
		codes[code]++
		same += p.Same
		for _, a := range p.Acts {
			acts[a.Act]++
		}
		if code == impl.CfWell && len(p.Acts) == 0 && p.Same > 0 {
			calm++
		}
	}
	for _, code := range []int{impl.CfRing, impl.CfValue, impl.CfBig} {
		if codes[code] < 20 {
			t.Error(codes, "the draws tell nothing")
		}
	}
	for act := impl.AcCreate; act <= impl.AcDelete; act++ {
		if acts[act] < 500 {
			t.Error(acts, "the draws tell nothing")
		}
	}
	if codes[impl.CfWell] < 3000 || same < 5000 || calm < 500 {
		t.Error(codes, same, calm, "the draws tell nothing")
	}
}

// TestLayoutsAsPlans: configurations that were drawn for ones, with any state.
func TestLayoutsAsPlans(t *testing.T) {
	codes := map[int]int{}
	states := drawnStates(200)
	for i, l := range drawnLayouts(1200) {
		_, code := plansByRule(t, l, states[i%200])
		codes[code]++
	}
	for code := impl.CfWell; code <= impl.CfLack; code++ {
		if codes[code] < 5 && code != impl.CfForm {
			t.Error(codes, "the draws tell nothing")
		}
	}
	d := draw(4)
	for i, l := range drawnLayouts(300) {
		s := d.meddled(states[i%200])
		if i%5 == 0 {
			l[d.upTo(len(l))].Kind = d.upTo(4)
		}
		_, code := plansByRule(t, l, s)
		codes[code]++
	}
	if codes[impl.CfForm] < 30 {
		t.Error(codes, "the draws tell nothing")
	}
}

// TestDrawnRestoresByRule: states of which many have something in common.
func TestDrawnRestoresByRule(t *testing.T) {
	d, acts, same := draw(77), map[int]int{}, 0
	check := func(s impl.State, old impl.State) {
		p, ok := impl.RestoreOf(s, old)
		may := stateByRule(s) && stateByRule(old)
		want := impl.Plan{}
		if may {
			want = restoreByRule(s, old)
		}
		if ok != may || !alike(p, want) {
			t.Fatalf("%s to %s: %s, wanted %s", statesText(s), statesText(old), planText(p), planText(want))
		}
		textsByRule(t, p)
		same += p.Same
		for _, a := range p.Acts {
			acts[a.Act]++
		}
	}
	for l, s := range drawnSchemes(250) {
		check(s, d.shaken(settled(l)))
	}
	states := drawnStates(600)
	for i, s := range states {
		check(s, states[(i+1)%600])
		check(s, d.meddled(s))
		check(d.meddled(s), states[(i+7)%600])
	}
	for act := impl.AcCreate; act <= impl.AcDelete; act++ {
		if acts[act] < 300 {
			t.Error(acts, "the draws tell nothing")
		}
	}
	if same < 1000 {
		t.Error(same, "the draws tell nothing")
	}
}

// anyPlan draws a plan that may be written, whose acts may need any others.
func (d *draw) anyPlan() impl.Plan {
	p := impl.Plan{Same: d.upTo(17)}
	addrs := []string{"a", "b", "c", "c[1]", `c["k"]`, "d", "e"}
	for range d.upTo(9) {
		a := act(1+d.upTo(4), addrs[d.upTo(len(addrs))], d.few(), "")
		a.Item = d.upTo(9) - 1
		for d.upTo(5) > 1 {
			a.Deps = append(a.Deps, []byte(append(addrs, "none", "", "A")[d.upTo(len(addrs)+3)]))
		}
		p.Acts = append(p.Acts, a)
	}
	return p
}

func TestDrawnOnly(t *testing.T) {
	d := draw(12)
	left := map[string]int{}
	for range 4000 {
		p := d.anyPlan()
		textsByRule(t, p)
		q, _ := impl.Only(p, []byte("c"))
		left[strconv.Itoa(len(q.Acts))]++
	}
	if len(left) < 6 {
		t.Error(left, "the draws tell nothing")
	}
}
