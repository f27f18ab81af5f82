package tests

import (
	"math/big"
	"regexp"
	"slices"
	"strings"
	"testing"

	"loop.example/g00407/impl"
)

// letterOf is a letter for a value's kind: a bool has one for each of both.
func letterOf(v impl.Value) string {
	if v.Kind == impl.VkBool {
		return "ft"[v.N : v.N+1]
	}
	return "nbisLM?"[v.Kind : v.Kind+1]
}

func lettersOf(l []impl.Value) string {
	out := ""
	for _, v := range l {
		out += letterOf(v)
	}
	return out
}

// What kids of a kind, and values of a function, may be, by their letters.
var kindWants = map[int]string{
	impl.ExGet:  `^[M?]$`,
	impl.ExItem: `^[LM?][is?]$`,
	impl.ExNot:  `^[ft?]$`,
	impl.ExNeg:  `^[i?]$`,
	impl.ExMul:  `^[i?]{2}$`,
	impl.ExAdd:  `^[i?]{2}$`,
	impl.ExSub:  `^[i?]{2}$`,
	impl.ExLess: `^[i?]{2}$`,
}
var callWants = map[string]struct {
	number int
	wants  string
}{
	"len":  {1, `^[sLM?]$`},
	"cat":  {2, `^[s?]{2}$`},
	"keys": {1, `^[M?]$`},
	"vals": {1, `^[M?]$`},
	"has":  {2, `^[M?][s?]$`},
	"min":  {2, `^[i?]{2}$`},
	"max":  {2, `^[i?]{2}$`},
}

// What ExAnd and ExOr are, by the letters of both kids; of the first alone where it decides.
var andTable = map[string]impl.Value{"f": vFalse, "tf": vFalse, "tt": vTrue, "t?": vUnknown, "?f": vFalse, "?t": vUnknown, "??": vUnknown}
var orTable = map[string]impl.Value{"t": vTrue, "ft": vTrue, "ff": vFalse, "f?": vUnknown, "?t": vTrue, "?f": vUnknown, "??": vUnknown}

func lookedUp(m impl.Value, key []byte) (impl.Value, int) {
	for i, k := range m.K {
		if string(k) == string(key) {
			return m.L[i], impl.EvWell
		}
	}
	return impl.Value{}, impl.EvLack
}

// greatByRule tells whether a value that keeps all rules passes a limit.
func greatByRule(v impl.Value) bool { return partsByRule(v) > 40 || deepByRule(v) > 5 }

// evalByRule tells what e is, by the words of the chapter; both e and v must be ones that may be, but that Res may be too great.
func evalByRule(e impl.Expr, v impl.Env) (impl.Value, int) {
	switch e.Kind {
	case impl.ExNull, impl.ExBool, impl.ExInt, impl.ExText:
		return impl.Value{Kind: e.Kind, N: e.N, S: e.S}, impl.EvWell
	case impl.ExIndex:
		return v.Index, impl.EvWell
	case impl.ExKey:
		return v.Key, impl.EvWell
	case impl.ExVal:
		return v.Val, impl.EvWell
	case impl.ExLocal:
		return lookedUp(v.Locals, e.S)
	case impl.ExRes:
		return lookedUp(v.Res, e.S)
	case impl.ExAnd:
		return decidedByRule(e, v, andTable)
	case impl.ExOr:
		return decidedByRule(e, v, orTable)
	case impl.ExIf:
		first, code := evalByRule(e.Kids[0], v)
		if code != impl.EvWell {
			return impl.Value{}, code
		}
		switch letterOf(first) {
		case "?":
			return vUnknown, impl.EvWell
		case "t":
			return evalByRule(e.Kids[1], v)
		case "f":
			return evalByRule(e.Kids[2], v)
		}
		return impl.Value{}, impl.EvType
	}
	var l []impl.Value
	for _, kid := range e.Kids {
		x, code := evalByRule(kid, v)
		if code != impl.EvWell {
			return impl.Value{}, code
		}
		l = append(l, x)
	}
	return strictByRule(e, l)
}

func decidedByRule(e impl.Expr, v impl.Env, table map[string]impl.Value) (impl.Value, int) {
	letters := ""
	for _, kid := range e.Kids {
		x, code := evalByRule(kid, v)
		if code != impl.EvWell {
			return impl.Value{}, code
		}
		letters += letterOf(x)
		if !strings.ContainsAny(letters[len(letters)-1:], "ft?") {
			return impl.Value{}, impl.EvType
		}
		if answer, told := table[letters]; told {
			return answer, impl.EvWell
		}
	}
	panic(letters)
}

// strictByRule tells what e is, of whose kids all values are there.
func strictByRule(e impl.Expr, l []impl.Value) (impl.Value, int) {
	switch e.Kind {
	case impl.ExList, impl.ExMap:
		x := impl.Value{Kind: e.Kind, K: e.K, L: l}
		if greatByRule(x) {
			return impl.Value{}, impl.EvOver
		}
		return x, impl.EvWell
	case impl.ExEq:
		if strings.Contains(bytesOfKinds(l[0])+bytesOfKinds(l[1]), "6") || slices.ContainsFunc(l, greatByRule) {
			return vUnknown, impl.EvWell
		}
		return truth(sameByRule(l[0], l[1])), impl.EvWell
	case impl.ExCall:
		return callByRule(string(e.S), l)
	}
	letters := lettersOf(l)
	if !regexp.MustCompile(kindWants[e.Kind]).MatchString(letters) {
		return impl.Value{}, impl.EvType
	}
	if strings.Contains(letters, "?") {
		return vUnknown, impl.EvWell
	}
	switch e.Kind {
	case impl.ExGet:
		return lookedUp(l[0], e.S)
	case impl.ExItem:
		return itemByLetters(letters, l)
	case impl.ExNot:
		return truth(letters == "f"), impl.EvWell
	}
	return reckonedByRule(e.Kind, l)
}

func itemByLetters(letters string, l []impl.Value) (impl.Value, int) {
	switch letters {
	case "Ms":
		return lookedUp(l[0], l[1].S)
	case "Li":
		for i, x := range l[0].L {
			if i == l[1].N {
				return x, impl.EvWell
			}
		}
		return impl.Value{}, impl.EvLack
	}
	return impl.Value{}, impl.EvType
}

// reckonedByRule reckons with numbers that have no end.
func reckonedByRule(kind int, l []impl.Value) (impl.Value, int) {
	var n []*big.Int
	for _, x := range l {
		n = append(n, big.NewInt(int64(x.N)))
	}
	out := new(big.Int)
	switch kind {
	case impl.ExLess:
		return truth(n[0].Cmp(n[1]) < 0), impl.EvWell
	case impl.ExNeg:
		out.Neg(n[0])
	case impl.ExMul:
		out.Mul(n[0], n[1])
	case impl.ExAdd:
		out.Add(n[0], n[1])
	case impl.ExSub:
		out.Sub(n[0], n[1])
	}
	if out.CmpAbs(big.NewInt(1000000000000)) > 0 {
		return impl.Value{}, impl.EvOver
	}
	return vInt(int(out.Int64())), impl.EvWell
}

// callByRule tells what a function is of values that keep all rules but, perhaps, the limits.
func callByRule(name string, l []impl.Value) (impl.Value, int) {
	if len(l) > 40 || slices.ContainsFunc(l, greatByRule) {
		return impl.Value{}, impl.EvForm
	}
	f, there := callWants[name]
	if !there || f.number != len(l) {
		return impl.Value{}, impl.EvWord
	}
	letters := lettersOf(l)
	if !regexp.MustCompile(f.wants).MatchString(letters) {
		return impl.Value{}, impl.EvType
	}
	if strings.Contains(letters, "?") {
		return vUnknown, impl.EvWell
	}
	switch name {
	case "len":
		return vInt(len(l[0].S) + len(l[0].L)), impl.EvWell
	case "cat":
		text := string(l[0].S) + string(l[1].S)
		if len(text) > 20 {
			return impl.Value{}, impl.EvOver
		}
		return vText(text), impl.EvWell
	case "keys":
		out := vList()
		for _, key := range l[0].K {
			out.L = append(out.L, vText(string(key)))
		}
		return out, impl.EvWell
	case "vals":
		return vList(l[0].L...), impl.EvWell
	case "has":
		_, code := lookedUp(l[0], l[1].S)
		return truth(code == impl.EvWell), impl.EvWell
	case "min":
		return vInt(slices.Min([]int{l[0].N, l[1].N})), impl.EvWell
	}
	return vInt(slices.Max([]int{l[0].N, l[1].N})), impl.EvWell
}

func truth(is bool) impl.Value {
	if is {
		return vTrue
	}
	return vFalse
}

// simplifiedByRule simplifies what may be.
func simplifiedByRule(e impl.Expr) impl.Expr {
	if !strings.ContainsAny(kindsIn(e), "67:;<") {
		if v, code := evalByRule(e, impl.Env{Locals: vMap(""), Res: vMap("")}); code == impl.EvWell && !strings.ContainsAny(letterOf(v), "LM?") {
			return exprOfByRule(v)
		}
	}
	kids := slices.Clone(e.Kids)
	for i, kid := range kids {
		kids[i] = simplifiedByRule(kid)
	}
	e.Kids = kids
	return e
}

// kindsIn is a byte for each part of e: '0' and its kind.
func kindsIn(e impl.Expr) string {
	out := string(rune('0' + e.Kind))
	for _, kid := range e.Kids {
		out += kindsIn(kid)
	}
	return out
}

// exprOfByRule is the expression of a value that is known.
func exprOfByRule(v impl.Value) impl.Expr {
	if v.Kind == impl.VkInt && v.N < 0 {
		return eOf(impl.ExNeg, eInt(-v.N))
	}
	e := impl.Expr{Kind: v.Kind, N: v.N, S: v.S, K: v.K}
	for _, x := range v.L {
		e.Kids = append(e.Kids, exprOfByRule(x))
	}
	return e
}

// localKinds are the locals of drawn expressions, and what they mostly are.
const localNames = "b c i j l m s t u"
const localKinds = "bbiiLMss?"

// of draws a known value of a kind, by its letter; of '?' any one.
func (d *draw) of(kind byte) impl.Value {
	few := []impl.Value{vInt(0), vInt(1), vInt(2), vText("a"), vText("b"), vText("id"), vTrue, vNull, vList(vInt(1)), vMap("a", vInt(5))}
	switch kind {
	case 'b':
		return truth(d.upTo(2) == 0)
	case 'i':
		return vInt([]int{0, 0, 1, 1, 2, 3, -1, 1000000, -1000000, 999999, impl.MaxInt, -impl.MaxInt}[d.upTo(12)])
	case 's':
		return vText([]string{"", "a", "b", "id", "a b", "0123456789", "01234567890"}[d.upTo(7)])
	case 'L':
		out := vList()
		for range d.upTo(4) {
			out.L = append(out.L, few[d.upTo(len(few))])
		}
		return out
	case 'M':
		out := impl.Value{Kind: impl.VkMap, K: d.someOf(3, "a", "b", "id", "size")}
		for range out.K {
			out.L = append(out.L, few[d.upTo(len(few))])
		}
		return out
	}
	return d.of("bisLM"[d.upTo(5)])
}

// env draws a known one, of which each local mostly is what it is called for.
func (d *draw) env() impl.Env {
	mostly := func(kind byte) impl.Value {
		if d.upTo(8) == 0 {
			return d.of('?')
		}
		return d.of(kind)
	}
	locals := vMap(localNames)
	for i := range locals.K {
		locals.L = append(locals.L, mostly(localKinds[i]))
	}
	for partsByRule(locals) > 40 {
		locals.L[d.upTo(len(locals.L))] = vInt(1)
	}
	v := impl.Env{Locals: locals, Res: vMap("db web", mostly('M'), mostly('M')), Index: mostly('i'), Key: mostly('s'), Val: mostly('?')}
	if d.upTo(6) == 0 {
		v.Locals, _ = impl.ValDrop(v.Locals, v.Locals.K[d.upTo(len(v.Locals.K))])
	}
	return v
}

// veiled is v with unknown for some of its parts.
func (d *draw) veiled(v impl.Value) impl.Value {
	if d.upTo(4) == 0 {
		return vUnknown
	}
	return d.veiledWithin(v)
}

func (d *draw) veiledWithin(v impl.Value) impl.Value {
	v.L = slices.Clone(v.L)
	for i, x := range v.L {
		v.L[i] = d.veiled(x)
	}
	return v
}

func (d *draw) veiledEnv(v impl.Env) impl.Env {
	return impl.Env{Locals: d.veiledWithin(v.Locals), Res: d.veiledWithin(v.Res), Index: d.veiled(v.Index), Key: d.veiled(v.Key), Val: d.veiled(v.Val)}
}

// leaf draws an expression without kids that is mostly of a kind.
func (d *draw) leaf(kind byte) impl.Expr {
	if d.upTo(2) == 0 {
		return exprOfByRule(d.of(kind))
	}
	switch d.upTo(8) {
	case 0:
		return eLocal("u")
	case 1:
		return []impl.Expr{eIndex, eKey, eVal}[d.upTo(3)]
	}
	if kind == 'M' && d.upTo(2) == 0 {
		return eRes([]string{"db", "web", "none"}[d.upTo(6)%3])
	}
	places := []int{}
	for i := range localKinds {
		if localKinds[i] == kind || kind == '?' {
			places = append(places, i)
		}
	}
	return eLocal(strings.Fields(localNames)[places[d.upTo(len(places))]])
}

// form is a sort of expression, with the letters of what its kids had better be.
type form struct {
	kind int
	says string
	keys string
	kids string
}

// formsOf are those that have, mostly, a value of a kind.
var formsOf = map[byte][]form{
	'b': {{impl.ExNot, "", "", "b"}, {impl.ExAnd, "", "", "bb"}, {impl.ExOr, "", "", "bb"}, {impl.ExLess, "", "", "ii"}, {impl.ExEq, "", "", "ii"}, {impl.ExEq, "", "", "ss"}, {impl.ExEq, "", "", "LL"}, {impl.ExEq, "", "", "MM"}, {impl.ExCall, "has", "", "Ms"}},
	'i': {{impl.ExNeg, "", "", "i"}, {impl.ExMul, "", "", "ii"}, {impl.ExAdd, "", "", "ii"}, {impl.ExSub, "", "", "ii"}, {impl.ExCall, "len", "", "s"}, {impl.ExCall, "len", "", "L"}, {impl.ExCall, "len", "", "M"}, {impl.ExCall, "min", "", "ii"}, {impl.ExCall, "max", "", "ii"}},
	's': {{impl.ExCall, "cat", "", "ss"}, {impl.ExItem, "", "", "Li"}},
	'L': {{impl.ExList, "", "", "??"}, {impl.ExList, "", "", "i"}, {impl.ExCall, "keys", "", "M"}, {impl.ExCall, "vals", "", "M"}},
	'M': {{impl.ExMap, "", "a b", "?i"}, {impl.ExMap, "", "id", "?"}},
	'?': {{impl.ExGet, "a", "", "M"}, {impl.ExItem, "", "", "Li"}, {impl.ExItem, "", "", "Ms"}, {impl.ExCall, "min", "", "i"}, {impl.ExCall, "size", "", "L"}},
}

// sense draws an expression that has a value of a kind more often than one that is drawn blindly.
func (d *draw) sense(depth int, kind byte) impl.Expr {
	if kind == '?' || d.upTo(16) == 0 {
		kind = "bisLM"[d.upTo(5)]
	}
	if depth <= 1 || d.upTo(5) == 0 {
		return d.leaf(kind)
	}
	forms := formsOf[kind]
	if d.upTo(12) == 0 {
		forms = formsOf['?']
	}
	f := forms[d.upTo(len(forms))]
	if d.upTo(6) == 0 {
		f = form{impl.ExIf, "", "", "b" + string([]byte{kind, kind})}
	}
	e := impl.Expr{Kind: f.kind, S: []byte(f.says), K: keysOf(f.keys)}
	for i := range f.kids {
		e.Kids = append(e.Kids, d.sense(depth-1, f.kids[i]))
	}
	return e
}

// drawnSense are so many that may be.
func drawnSense(n int) []impl.Expr {
	d := draw(n + 7)
	var out []impl.Expr
	for len(out) < n {
		if e := d.sense(1+d.upTo(6), "bisLM"[d.upTo(5)]); wholeByRule(e) {
			out = append(out, e)
		}
	}
	return out
}

// drawnEnvs are so many that may be; of each second one some parts are unknown.
func drawnEnvs(n int) []impl.Env {
	d := draw(n + 3)
	var out []impl.Env
	for i := range n {
		v := d.env()
		if i%2 == 1 {
			v = d.veiledEnv(v)
		}
		out = append(out, v)
	}
	return out
}

// evaluatesByRule fails where e is not what the chapter says.
func evaluatesByRule(t *testing.T, e impl.Expr, v impl.Env) int {
	t.Helper()
	want, code := evalByRule(e, v)
	got, told := impl.Eval(e, v)
	if code != told || !alike(got, want) {
		t.Errorf("%s is %s, %d, wanted %s, %d", impl.ExprText(e), impl.ValText(got), told, impl.ValText(want), code)
	}
	return told
}

// TestDrawnValuesOfExpressions: what is drawn has values, and each code, often enough to tell something.
func TestDrawnValuesOfExpressions(t *testing.T) {
	codes := map[int]int{}
	unknown := 0
	envs := drawnEnvs(500)
	for i, e := range slices.Concat(drawnSense(20000), drawnExprs(4000)) {
		v := envs[i%len(envs)]
		code := evaluatesByRule(t, e, v)
		codes[code]++
		if x, _ := impl.Eval(e, v); x.Kind == impl.VkUnknown {
			unknown++
		}
		if t.Failed() {
			return
		}
	}
	if codes[impl.EvWell] < 8000 || unknown < 500 || unknown*2 > codes[impl.EvWell] {
		t.Error(codes, unknown, "the draws tell nothing")
	}
	for code := impl.EvType; code <= impl.EvWord; code++ {
		if codes[code] < 50 {
			t.Error(codes, "the draws tell nothing")
		}
	}
	if codes[impl.EvForm] != 0 {
		t.Error(codes)
	}
}
