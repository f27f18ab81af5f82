package tests

import (
	"cmp"
	"slices"
	"strconv"
	"strings"
	"testing"

	"loop.example/g00407/impl"
)

// The chapter once more, in another way: all that is wrong is told with a rank, and the least rank counts; the order in which locals come to have values is the least of all orders that have each behind what it names.

// complaint is something that is wrong with an item.
type complaint struct {
	rank [4]int
	code int
	item int
}

// least is the complaint that counts; CfWell and 0 if there is none.
func least(l []complaint) (int, int) {
	if len(l) == 0 {
		return impl.CfWell, 0
	}
	first := slices.MinFunc(l, func(a complaint, b complaint) int { return slices.Compare(a.rank[:], b.rank[:]) })
	return first.code, first.item
}

// flat are all parts of e.
func flat(e impl.Expr) []impl.Expr {
	out := []impl.Expr{e}
	for _, kid := range e.Kids {
		out = append(out, flat(kid)...)
	}
	return out
}

// saidBy are what all parts of a kind say.
func saidBy(kind int, l ...impl.Expr) []string {
	var out []string
	for _, e := range l {
		for _, part := range flat(e) {
			if part.Kind == kind {
				out = append(out, string(part.S))
			}
		}
	}
	return out
}

// placesOf are the numbers of all items of a kind, by their names.
func placesOf(l []impl.Item, kind int) map[string]int {
	out := map[string]int{}
	for i, x := range l {
		if x.Kind == kind {
			out[string(x.Name)] = i
		}
	}
	return out
}

// misuses are what is wrong with what e uses and names; barred are its parts that may not be, as bytes of kindsIn.
func misuses(l []impl.Item, e impl.Expr, barred string, item int, phase int, place int) []complaint {
	var out []complaint
	if strings.ContainsAny(kindsIn(e), barred) {
		out = append(out, complaint{[4]int{phase, item, place, 0}, impl.CfUses, item})
	}
	for kind, want := range map[int]int{impl.ExLocal: impl.ItLocal, impl.ExRes: impl.ItRes} {
		for _, name := range saidBy(kind, e) {
			if _, there := placesOf(l, want)[name]; !there {
				out = append(out, complaint{[4]int{phase, item, place, 1}, impl.CfLack, item})
			}
		}
	}
	return out
}

// orders tells all orders of 0 .. n - 1, the least first.
func orders(n int) func(yield func([]int) bool) {
	return func(yield func([]int) bool) {
		var grow func(order []int) bool
		grow = func(order []int) bool {
			if len(order) == n {
				return yield(slices.Clone(order))
			}
			for i := range n {
				if !slices.Contains(order, i) && !grow(append(order, i)) {
					return false
				}
			}
			return true
		}
		grow(make([]int, 0, n))
	}
}

// ends tells whether no way from a local to those that it names has more steps than there are.
func ends(l []impl.Item, at int, steps int) bool {
	if steps == 0 {
		return false
	}
	for _, name := range saidBy(impl.ExLocal, l[at].Exprs...) {
		if !ends(l, placesOf(l, impl.ItLocal)[name], steps-1) {
			return false
		}
	}
	return true
}

// behindAll tells whether in an order each local comes behind those that it names.
func behindAll(l []impl.Item, order []int) bool {
	for k, at := range order {
		for _, name := range saidBy(impl.ExLocal, l[at].Exprs...) {
			if !slices.Contains(order[:k], placesOf(l, impl.ItLocal)[name]) {
				return false
			}
		}
	}
	return true
}

// settling is the order in which locals come to have values, and those that come to none.
func settling(l []impl.Item) (order []int, never []int) {
	var some []int
	for i, x := range l {
		switch {
		case x.Kind != impl.ItLocal:
		case ends(l, i, len(l)):
			some = append(some, i)
		default:
			never = append(never, i)
		}
	}
	for ranks := range orders(len(some)) {
		order = nil
		for _, rank := range ranks {
			order = append(order, some[rank])
		}
		if behindAll(l, order) {
			break
		}
	}
	return order, never
}

// mapByName is the map of these.
func mapByName(of map[string]impl.Value) impl.Value {
	out := vMap("")
	for name := range of {
		out.K = append(out.K, []byte(name))
	}
	slices.SortFunc(out.K, func(a []byte, b []byte) int { return cmp.Compare(string(a), string(b)) })
	for _, name := range out.K {
		out.L = append(out.L, of[string(name)])
	}
	return out
}

// localsByRule must be given no more locals than can be put in all orders.
func localsByRule(l []impl.Item) (impl.Value, int, int) {
	if !configByRule(l) {
		return impl.Value{}, impl.CfForm, 0
	}
	var wrong []complaint
	for i, x := range l {
		if x.Kind == impl.ItLocal {
			wrong = append(wrong, misuses(l, x.Exprs[0], "7:;<", i, 0, 0)...)
		}
	}
	if len(wrong) > 0 {
		code, item := least(wrong)
		return impl.Value{}, code, item
	}
	values := map[string]impl.Value{}
	order, never := settling(l)
	for _, at := range order {
		v, code := evalByRule(l[at].Exprs[0], impl.Env{Locals: mapByName(values), Res: vMap("")})
		if code != impl.EvWell {
			return impl.Value{}, impl.CfValue, at
		}
		values[string(l[at].Name)] = v
		if all := mapByName(values); partsByRule(all) > 40 || deepByRule(all) > 5 {
			return impl.Value{}, impl.CfBig, at
		}
	}
	if len(never) > 0 {
		return impl.Value{}, impl.CfRing, never[0]
	}
	return mapByName(values), impl.CfWell, 0
}

// itemFlaws are what is wrong with what an item that is no local uses, is called and names.
func itemFlaws(l []impl.Item, at int) []complaint {
	var out []complaint
	x := l[at]
	for i, e := range x.Exprs {
		barred := ":;<"
		if x.Kind == impl.ItRes {
			barred = ""
			if string(x.Names[i]) == "id" {
				out = append(out, complaint{[4]int{0, at, i, 0}, impl.CfUses, at})
			}
		}
		out = append(out, misuses(l, e, barred, at, 0, i)...)
	}
	if x.Many != impl.MnOne {
		out = append(out, misuses(l, x.By, "7:;<", at, 0, len(x.Exprs))...)
	}
	return out
}

// onesByRule are the ones of one item, or why there are none.
func onesByRule(x impl.Item, at int, locals impl.Value) ([]impl.Inst, int) {
	name := string(x.Name)
	if x.Many == impl.MnOne {
		return []impl.Inst{{Addr: []byte(name), Item: at}}, impl.CfWell
	}
	v, code := evalByRule(x.By, impl.Env{Locals: locals, Res: vMap("")})
	if code != impl.EvWell {
		return nil, impl.CfValue
	}
	var out []impl.Inst
	switch strconv.Itoa(x.Many) + letterOf(v) {
	case "1i":
		if v.N < 0 || v.N > 5 {
			return nil, impl.CfMany
		}
		for i := range v.N {
			out = append(out, impl.Inst{Addr: []byte(name + "[" + strconv.Itoa(i) + "]"), Item: at, Index: vInt(i)})
		}
		return out, impl.CfWell
	case "2M":
		if len(v.K) > 5 {
			return nil, impl.CfMany
		}
		for i, key := range v.K {
			out = append(out, impl.Inst{Addr: []byte(name + `["` + string(key) + `"]`), Item: at, Key: vText(string(key)), Val: v.L[i]})
		}
		return out, impl.CfWell
	}
	return nil, impl.CfMany
}

func instsByRule(l []impl.Item) ([]impl.Inst, int, int) {
	locals, code, item := localsByRule(l)
	if code != impl.CfWell {
		return nil, code, item
	}
	var wrong []complaint
	for i, x := range l {
		if x.Kind != impl.ItLocal {
			wrong = append(wrong, itemFlaws(l, i)...)
		}
	}
	if len(wrong) > 0 {
		code, item := least(wrong)
		return nil, code, item
	}
	var all []impl.Inst
	for i, x := range l {
		if x.Kind != impl.ItRes {
			continue
		}
		some, code := onesByRule(x, i, locals)
		all = append(all, some...)
		if code != impl.CfWell {
			return nil, code, i
		}
		if len(all) > 16 {
			return nil, impl.CfBig, i
		}
	}
	return all, impl.CfWell, 0
}

// usesByRule are the resources that an item's attributes name, ascending, parted by blanks.
func usesByRule(x impl.Item) string {
	if !configByRule([]impl.Item{x}) {
		return ""
	}
	names := saidBy(impl.ExRes, x.Exprs...)
	slices.Sort(names)
	return strings.Join(slices.Compact(names), " ")
}

// needsByRule are the addresses that a one needs, ascending, parted by blanks.
func needsByRule(l []impl.Item, addr string) string {
	all, _, _ := instsByRule(l)
	var out []string
	for _, one := range all {
		for _, other := range all {
			if string(one.Addr) == addr && slices.Contains(strings.Fields(usesByRule(l[one.Item])), string(l[other.Item].Name)) {
				out = append(out, string(other.Addr))
			}
		}
	}
	slices.Sort(out)
	return strings.Join(out, " ")
}

// localForms and byForms are what drawn locals are, and how many there are of drawn resources; % is a local that may be used there.
var localForms = map[byte][]string{
	'i': {"0", "1", "2", "3", "5", "% + 1", "%", "% * 2", "min(%, 3)", "% < 1 ? 2 : 3", "len([%, %])"},
	'M': {"{}", "{p = 1, q = %}", "{x = {y = %}}", "{a = 1, b = 2, c = 3, d = 4, e = 5}", "{k = [1, %]}", "true ? {} : %"},
}
var byForms = [][]string{
	impl.MnCount: {"0", "1", "2", "3", "4", "5", "$i", "$j", "len($m)", "$i + 1", "min($i, $j)"},
	impl.MnEach:  {"{}", "{p = 1}", "{p = 1, q = $i}", "$m", "$n", "$m == $n ? $m : $n", "{a = 1, b = 2, c = $m, d = 4, e = $n}"},
}
var attrForms = []string{"1", "index", "key", "val", "$i", "$m", "%", "%.id", "[%, %]", "{a = %}", "$i + 1", "% == %", "true || %"}

// wrongForms are what seldom stands in the place of each of them.
var wrongForms = []string{"foo()", "1 + true", "web.id", "index", "$none", "none", "$m.none", "6", "-1", "{a = 1, b = 2, c = 3, d = 4, e = 5, f = 6}", "null", "[]", nulls(39), nulls(40), nestedLists(5), "$i", "$j", "$i + $j", "$n", "[$m, $n]", "val"}

// formed draws one of the forms, with names for each %; one time in so many a wrong one.
func (d *draw) formed(seldom int, forms []string, names []string) impl.Expr {
	form := forms[d.upTo(len(forms))]
	if d.upTo(seldom) == 0 {
		form = wrongForms[d.upTo(len(wrongForms))]
	}
	for strings.Contains(form, "%") {
		form = strings.Replace(form, "%", names[d.upTo(len(names))], 1)
	}
	return exprFrom(form)
}

// layout draws a configuration that mostly has ones.
func (d *draw) layout() []impl.Item {
	var out []impl.Item
	names := strings.Fields("i j m n")
	d.shuffle(len(names), func(i, j int) { names[i], names[j] = names[j], names[i] })
	ahead := []string{"7"}
	for _, name := range names {
		kind := map[string]byte{"i": 'i', "j": 'i', "m": 'M', "n": 'M'}[name]
		out = append(out, itLocal(name, d.formed(30, localForms[kind], ahead)))
		if kind == 'i' || d.upTo(20) == 0 {
			ahead = append(ahead, "$"+name)
		}
	}
	some := append(d.someOf(4, "app", "db", "net", "web", "zone"), []byte("web"))
	slices.SortFunc(some, func(a []byte, b []byte) int { return cmp.Compare(string(a), string(b)) })
	some = slices.CompactFunc(some, func(a []byte, b []byte) bool { return string(a) == string(b) })
	for _, name := range some {
		x := impl.Item{Kind: impl.ItRes, Name: name, Many: d.upTo(3), Names: d.someOf(3, "a", "b", "size", "zone")}
		if d.upTo(60) == 0 {
			x.Names = keysOf([]string{"id", "a id", "id size"}[d.upTo(3)])
		}
		for range x.Names {
			x.Exprs = append(x.Exprs, d.formed(60, attrForms, strings.Fields(texts(some))))
		}
		if x.Many != impl.MnOne {
			x.By = d.formed(25, byForms[x.Many], ahead)
		}
		out = append(out, x)
	}
	for _, name := range d.someOf(2, "i", "id", "web") {
		out = append(out, itOut(string(name), d.formed(40, []string{"1", "$i", "%", "[%.id, $m]"}, strings.Fields(texts(some)))))
	}
	d.shuffle(len(out), func(i, j int) { out[i], out[j] = out[j], out[i] })
	return out
}

// shuffle puts n things in an order that is drawn.
func (d *draw) shuffle(n int, swap func(i, j int)) {
	for i := n - 1; i > 0; i-- {
		swap(i, d.upTo(i+1))
	}
}

// drawnLayouts are so many configurations that may be.
func drawnLayouts(n int) [][]impl.Item {
	d := draw(n + 88)
	var out [][]impl.Item
	for len(out) < n {
		if l := d.layout(); configByRule(l) {
			out = append(out, l)
		}
	}
	return out
}

// expandsByRule fails where the functions of the chapter do not tell what its words say, and tells InstsOf's code.
func expandsByRule(t *testing.T, l []impl.Item) int {
	t.Helper()
	v, code, item := impl.LocalsOf(l)
	wantV, wantCode, wantItem := localsByRule(l)
	if code != wantCode || item != wantItem || !alike(v, wantV) {
		t.Errorf("%s: LocalsOf tells %s, %d, %d, wanted %s, %d, %d", impl.ConfigText(l), impl.ValText(v), code, item, impl.ValText(wantV), wantCode, wantItem)
	}
	all, code, item := impl.InstsOf(l)
	want, wantCode, wantItem := instsByRule(l)
	if code != wantCode || item != wantItem || !alike(all, want) {
		t.Errorf("%s: InstsOf tells %d, %d, wanted %d, %d", impl.ConfigText(l), code, item, wantCode, wantItem)
	}
	for _, x := range l {
		if got := texts(impl.ItemUses(x)); got != usesByRule(x) {
			t.Errorf("%s: %s uses %s", impl.ConfigText(l), x.Name, got)
		}
	}
	addrs := []string{"web", "web[0]", `web["p"]`, "i", "id", "none"}
	for _, one := range want {
		addrs = append(addrs, string(one.Addr))
	}
	for _, addr := range addrs {
		if got := texts(impl.InstNeeds(l, []byte(addr))); got != needsByRule(l, addr) {
			t.Errorf("%s: %s needs %s, wanted %s", impl.ConfigText(l), addr, got, needsByRule(l, addr))
		}
	}
	return code
}

// TestDrawnLayouts: what is drawn has ones, and each code, often enough to tell something.
func TestDrawnLayouts(t *testing.T) {
	codes := map[int]int{}
	ones := 0
	for _, l := range slices.Concat(drawnLayouts(3500), drawnConfigs(600)) {
		codes[expandsByRule(t, l)]++
		all, _, _ := impl.InstsOf(l)
		ones = max(ones, len(all))
		if t.Failed() {
			return
		}
	}
	if codes[impl.CfWell] < 1500 || codes[impl.CfForm] != 0 || ones != impl.MaxEntries {
		t.Error(codes, ones, "the draws tell nothing")
	}
	for code := impl.CfRing; code <= impl.CfLack; code++ {
		if codes[code] < 30 {
			t.Error(codes, "the draws tell nothing")
		}
	}
}

// TestLayoutsThatAreMeddledWith: of each some are not ConfigOk any more.
func TestLayoutsThatAreMeddledWith(t *testing.T) {
	d := draw(9)
	codes := map[int]int{}
	for _, l := range drawnLayouts(1500) {
		x := &l[d.upTo(len(l))]
		switch d.upTo(5) {
		case 0:
			x.Kind = d.upTo(5) - 1
		case 1:
			x.Name = []byte([]string{"res", "A", "", "i", "web"}[d.upTo(5)])
		case 2:
			x.Many = d.upTo(5) - 1
		case 3:
			x.Exprs = append(x.Exprs, eNull)[d.upTo(2):]
		case 4:
			l = slices.Delete(l, 0, 1)
		}
		codes[expandsByRule(t, l)]++
		if t.Failed() {
			return
		}
	}
	if codes[impl.CfForm] < 300 || codes[impl.CfWell] < 200 {
		t.Error(codes, "the draws tell nothing")
	}
}
