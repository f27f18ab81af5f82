package tests

import (
	"regexp"
	"slices"
	"strconv"
	"strings"

	"loop.example/g00407/impl"
)

// The language once more, read in another way: tokens by an expression of the library, their form by the document's grammar as a table, the tree by parting the tokens at the loosest sign.

// piece is a token, as it stands.
type piece struct {
	at   int
	text string
}

var aPiece = regexp.MustCompile(`^("([ !#-\[\]-~]|\\["\\])*"|[a-z]+|[0-9]+|==|&&|\|\||[{}()\[\]=<!+\-*?:,.$])`)
var aNumber = regexp.MustCompile(`^(0|[1-9][0-9]{0,11}|1000000000000)$`)

func (p piece) is(words ...string) bool { return slices.Contains(words, p.text) }

func (p piece) says() string {
	return strings.NewReplacer(`\"`, `"`, `\\`, `\`).Replace(p.text[1 : len(p.text)-1])
}

// sort tells what a piece is; nothing if it is no token.
func (p piece) sort() string {
	switch {
	case p.text == "":
		return ""
	case p.text[0] == '"':
		return map[bool]string{true: "TEXT"}[len(p.says()) <= 20]
	case p.text[0] >= '0' && p.text[0] <= '9':
		return map[bool]string{true: "NUMBER"}[aNumber.MatchString(p.text)]
	case p.text[0] >= 'a' && p.text[0] <= 'z':
		return map[bool]string{true: "NAME"}[len(p.text) <= 8]
	}
	return p.text
}

// fits tells whether p can be this symbol of the grammar.
func (p piece) fits(symbol string) bool {
	return p.text == symbol || p.sort() == symbol || symbol == "WORD" && p.sort() == "NAME" && aWord(p.text)
}

// piecesByRule gives the tokens of s, and the place at which none is, or -1.
func piecesByRule(s string) ([]piece, int) {
	var out []piece
	for at := 0; at < len(s); {
		if s[at] == ' ' || s[at] == '\n' {
			at++
			continue
		}
		p := piece{at, aPiece.FindString(s[at:])}
		if p.sort() == "" {
			return out, at
		}
		out = append(out, p)
		at += len(p.text)
	}
	return out, -1
}

const grammarLines = `expr = or
expr = or ? expr : expr
or = and
or = or || and
and = rel
and = and && rel
rel = sum
rel = rel == sum
rel = rel < sum
sum = prod
sum = sum + prod
sum = sum - prod
prod = sign
prod = prod * sign
sign = ! sign
sign = - sign
sign = tail
tail = atom
tail = tail . NAME
tail = tail [ expr ]
atom = NUMBER
atom = TEXT
atom = null
atom = true
atom = false
atom = index
atom = key
atom = val
atom = $ NAME
atom = WORD
atom = WORD ( )
atom = WORD ( exprs )
atom = ( expr )
atom = [ ]
atom = [ exprs ]
atom = { }
atom = { pairs }
exprs = expr
exprs = exprs , expr
pairs = NAME = expr
pairs = pairs , NAME = expr
config = 
config = config item
item = local WORD = expr
item = out WORD = expr
item = res WORD { attrs }
item = res WORD count expr { attrs }
item = res WORD each expr { attrs }
attrs = 
attrs = attrs NAME = expr`

// grammar is what each of its heads may be.
var grammar = func() map[string][][]string {
	out := map[string][][]string{}
	for _, line := range strings.Split(grammarLines, "\n") {
		head, body, _ := strings.Cut(line, " = ")
		out[head] = append(out[head], strings.Fields(body))
	}
	return out
}()

// spot is a place in a line of the grammar, with the place in the tokens from which on it was read.
type spot struct {
	head string
	line int
	dot  int
	from int
}

// next is the symbol behind a spot; nothing at the end of the line.
func (s spot) next() string {
	if body := grammar[s.head][s.line]; s.dot < len(body) {
		return body[s.dot]
	}
	return ""
}

// closure adds all that spots lead to at their place, the last one of sets.
func closure(sets [][]spot, seen map[spot]bool) {
	last := len(sets) - 1
	add := func(s spot) bool {
		if seen[s] {
			return false
		}
		seen[s] = true
		sets[last] = append(sets[last], s)
		return true
	}
	for grew := true; grew; {
		grew = false
		for i := 0; i < len(sets[last]); i++ {
			s := sets[last][i]
			for line := range grammar[s.next()] {
				grew = add(spot{s.next(), line, 0, last}) || grew
			}
			if s.next() != "" {
				continue
			}
			for _, o := range slices.Clone(sets[s.from]) {
				if o.next() == s.head {
					grew = add(spot{o.head, o.line, o.dot + 1, o.from}) || grew
				}
			}
		}
	}
}

// firstMisfit tells the number of the first token that can't stand where it does by the grammar, that of all if one lacks, -1 if none does.
func firstMisfit(pieces []piece, start string) int {
	var first []spot
	seen := map[spot]bool{}
	for line := range grammar[start] {
		first = append(first, spot{start, line, 0, 0})
		seen[first[line]] = true
	}
	sets := [][]spot{first}
	closure(sets, seen)
	for i, p := range pieces {
		var now []spot
		seen = map[spot]bool{}
		for _, s := range sets[i] {
			if next := s.next(); next != "" && grammar[next] == nil && p.fits(next) {
				moved := spot{s.head, s.line, s.dot + 1, s.from}
				now = append(now, moved)
				seen[moved] = true
			}
		}
		if len(now) == 0 {
			return i
		}
		sets = append(sets, now)
		closure(sets, seen)
	}
	for _, s := range sets[len(pieces)] {
		if s.head == start && s.from == 0 && s.next() == "" {
			return -1
		}
	}
	return len(pieces)
}

// endsOperand tells whether an expression can end with the token of this number.
func endsOperand(pieces []piece, i int) bool {
	if i < 0 {
		return false
	}
	if p := pieces[i]; p.sort() != "NAME" {
		return p.is(")", "]", "}") || p.sort() == "NUMBER" || p.sort() == "TEXT"
	}
	return i > 0 && pieces[i-1].is("$", ".") || !pieces[i].is("local", "res", "out", "count", "each")
}

// firstDescent tells the number of the first NAME that does not ascend, -1 if all do. The tokens must fit the grammar.
func firstDescent(pieces []piece) int {
	type open struct {
		sign string
		last string
	}
	stack := []open{{}}
	for i, p := range pieces {
		top := &stack[len(stack)-1]
		named := i > 0 && pieces[i-1].is("{") || i > 0 && pieces[i-1].is(",") && top.sign == "{" || top.sign == "body" && endsOperand(pieces, i-1)
		switch {
		case p.is("{") && endsOperand(pieces, i-1):
			stack = append(stack, open{sign: "body"})
		case p.is("{", "[", "("):
			stack = append(stack, open{sign: p.text})
		case p.is("}", "]", ")"):
			stack = stack[:len(stack)-1]
		case p.sort() == "NAME" && named:
			if top.last >= p.text {
				return i
			}
			top.last = p.text
		}
	}
	return -1
}

// formByRule tells the place of the first token that can't stand where it does, or -1.
func formByRule(pieces []piece, start string, size int) int {
	misfit := firstMisfit(pieces, start)
	fitting := pieces
	if misfit >= 0 {
		fitting = pieces[:misfit]
	}
	if descent := firstDescent(fitting); descent >= 0 {
		return pieces[descent].at
	}
	switch misfit {
	case -1:
		return -1
	case len(pieces):
		return size
	}
	return pieces[misfit].at
}

// parting makes trees of tokens, and notes the places that are too deep.
type parting struct {
	deep []int
}

func (x *parting) note(p piece, depth int) {
	if depth > 10 {
		x.deep = append(x.deep, p.at)
	}
}

// outer gives the numbers of the tokens that are in no brackets, brackets themselves not being among them.
func outer(pieces []piece) []int {
	var out []int
	level := 0
	for i, p := range pieces {
		switch {
		case p.is("(", "[", "{"):
			level++
		case p.is(")", "]", "}"):
			level--
		case level == 0:
			out = append(out, i)
		}
	}
	return out
}

// tree makes an expression of tokens that have its form.
func (x *parting) tree(p []piece, depth int) impl.Expr {
	free := outer(p)
	if i := slices.IndexFunc(free, func(i int) bool { return p[i].is("?") }); i >= 0 {
		return x.choice(p, free[i:], depth)
	}
	for _, rank := range []string{"||", "&&", "== <", "+ -", "*"} {
		for _, i := range slices.Backward(free) {
			if p[i].is(strings.Fields(rank)...) && endsOperand(p, i-1) {
				kind := map[string]int{"*": 15, "+": 16, "-": 17, "==": 18, "<": 19, "&&": 20, "||": 21}[p[i].text]
				return eOf(kind, x.tree(p[:i], depth), x.tree(p[i+1:], depth+1))
			}
		}
	}
	if p[0].is("!", "-") {
		x.note(p[0], depth)
		return eOf(map[string]int{"!": 13, "-": 14}[p[0].text], x.tree(p[1:], depth+1))
	}
	return x.tailTree(p, depth)
}

// choice parts what has a ? in no brackets; marks are the free tokens from that one on.
func (x *parting) choice(p []piece, marks []int, depth int) impl.Expr {
	level := 0
	for _, i := range marks {
		if p[i].is("?") {
			level++
		}
		if p[i].is(":") {
			level--
		}
		if level == 0 {
			return eOf(impl.ExIf, x.tree(p[:marks[0]], depth), x.tree(p[marks[0]+1:i], depth+1), x.tree(p[i+1:], depth+1))
		}
	}
	panic("no form")
}

func (x *parting) tailTree(p []piece, depth int) impl.Expr {
	n := len(p)
	if n > 2 && p[n-2].is(".") {
		return eSays(impl.ExGet, p[n-1].text, x.tree(p[:n-2], depth))
	}
	if p[n-1].is("]") {
		if from := opening(p); from > 0 {
			return eOf(impl.ExItem, x.tree(p[:from], depth), x.tree(p[from+1:n-1], depth+1))
		}
	}
	return x.atomTree(p, depth)
}

// opening tells the number of the token that opens what the last one closes.
func opening(p []piece) int {
	level := 0
	for i, one := range slices.Backward(p) {
		if one.is(")", "]", "}") {
			level++
		}
		if one.is("(", "[", "{") {
			level--
		}
		if level == 0 {
			return i
		}
	}
	return -1
}

func (x *parting) atomTree(p []piece, depth int) impl.Expr {
	x.note(p[0], depth)
	n := len(p)
	switch {
	case p[0].sort() == "NUMBER":
		number, _ := strconv.Atoi(p[0].text)
		return eInt(number)
	case p[0].sort() == "TEXT":
		return eText(p[0].says())
	case p[0].is("$"):
		return eLocal(p[1].text)
	case p[0].is("("):
		return x.tree(p[1:n-1], depth)
	case p[0].is("["):
		return eOf(impl.ExList, x.trees(p[1:n-1], 0, depth+1)...)
	case p[0].is("{"):
		e := eOf(impl.ExMap, x.trees(p[1:n-1], 2, depth+1)...)
		for _, part := range atCommas(p[1 : n-1]) {
			e.K = append(e.K, []byte(part[0].text))
		}
		return e
	case n > 1:
		return eSays(impl.ExCall, p[0].text, x.trees(p[2:n-1], 0, depth+1)...)
	}
	for _, c := range append(slices.Clone(oneOfEach), moreExprs[0]) {
		if c.text == p[0].text && len(c.e.S) == 0 {
			return c.e
		}
	}
	return eRes(p[0].text)
}

func atCommas(p []piece) [][]piece {
	var out [][]piece
	from := 0
	for _, i := range outer(p) {
		if p[i].is(",") {
			out = append(out, p[from:i])
			from = i + 1
		}
	}
	if len(p) > 0 {
		out = append(out, p[from:])
	}
	return out
}

// trees makes one of each part between commas, without the first so many tokens of it.
func (x *parting) trees(p []piece, skip int, depth int) []impl.Expr {
	var out []impl.Expr
	for _, part := range atCommas(p) {
		out = append(out, x.tree(part[skip:], depth))
	}
	return out
}

// itemTrees makes items of tokens that have their form.
func (x *parting) itemTrees(p []piece) []impl.Item {
	var out []impl.Item
	var starts []int
	for _, i := range outer(p) {
		if p[i].is("local", "res", "out") && (i == 0 || !p[i-1].is("$", ".")) {
			starts = append(starts, i)
		}
	}
	for k, from := range starts {
		to := len(p)
		if k+1 < len(starts) {
			to = starts[k+1]
		}
		out = append(out, x.itemTree(p[from:to]))
	}
	return out
}

func (x *parting) itemTree(p []piece) impl.Item {
	out := impl.Item{Kind: map[string]int{"local": 0, "res": 1, "out": 2}[p[0].text], Name: []byte(p[1].text)}
	if out.Kind != impl.ItRes {
		out.Exprs = []impl.Expr{x.tree(p[3:], 1)}
		return out
	}
	body := opening(p)
	if body > 2 {
		out.Many = map[string]int{"count": 1, "each": 2}[p[2].text]
		out.By = x.tree(p[3:body], 1)
	}
	inner := p[body+1 : len(p)-1]
	var starts []int
	for _, i := range outer(inner) {
		if inner[i].sort() == "NAME" && (i == 0 || endsOperand(inner, i-1)) {
			starts = append(starts, i)
		}
	}
	for k, from := range starts {
		to := len(inner)
		if k+1 < len(starts) {
			to = starts[k+1]
		}
		out.Names = append(out.Names, []byte(inner[from].text))
		out.Exprs = append(out.Exprs, x.tree(inner[from+2:to], 1))
	}
	return out
}

// readByRule tells what is wrong with s, and where; else RdWell, 0 and its tokens.
func readByRule(s string, start string) ([]piece, int, int) {
	if len(s) > 1200 {
		return nil, impl.RdLong, 0
	}
	pieces, none := piecesByRule(s)
	if none >= 0 {
		return nil, impl.RdByte, none
	}
	if at := formByRule(pieces, start, len(s)); at >= 0 {
		return nil, impl.RdForm, at
	}
	return pieces, impl.RdWell, 0
}

func exprReadByRule(s string) (impl.Expr, int, int) {
	pieces, code, at := readByRule(s, "expr")
	if code != impl.RdWell {
		return impl.Expr{}, code, at
	}
	var x parting
	e := x.tree(pieces, 1)
	switch {
	case len(x.deep) > 0:
		return impl.Expr{}, impl.RdBig, slices.Min(x.deep)
	case !wholeByRule(e):
		return impl.Expr{}, impl.RdBig, len(s)
	}
	return e, impl.RdWell, 0
}

func configReadByRule(s string) ([]impl.Item, int, int) {
	pieces, code, at := readByRule(s, "config")
	if code != impl.RdWell {
		return nil, code, at
	}
	var x parting
	l := x.itemTrees(pieces)
	switch {
	case len(x.deep) > 0:
		return nil, impl.RdBig, slices.Min(x.deep)
	case !configByRule(l):
		return nil, impl.RdBig, len(s)
	}
	return l, impl.RdWell, 0
}

// configByRule tells whether l may be. It must not be given what has no end.
func configByRule(l []impl.Item) bool {
	parts, seen := 0, map[string]int{}
	for _, x := range l {
		seen[strconv.Itoa(x.Kind)+string(x.Name)]++
		if !itemByRule(x) {
			return false
		}
		for _, e := range x.Exprs {
			parts += exprParts(e)
		}
		if x.Many != 0 {
			parts += exprParts(x.By)
		}
	}
	return len(l) <= 12 && len(seen) == len(l) && parts <= 150
}

func itemByRule(x impl.Item) bool {
	by := x.By
	bare := by.Kind == 0 && by.N == 0 && len(by.S)+len(by.K)+len(by.Kids) == 0
	if !aWord(string(x.Name)) || len(x.Exprs) > 6 || slices.ContainsFunc(x.Exprs, func(e impl.Expr) bool { return !wholeByRule(e) }) {
		return false
	}
	switch {
	case x.Kind == 1 && x.Many == 0:
		return bare && len(x.Names) == len(x.Exprs) && namesByRule(x.Names)
	case x.Kind == 1 && (x.Many == 1 || x.Many == 2):
		return wholeByRule(by) && len(x.Names) == len(x.Exprs) && namesByRule(x.Names)
	case x.Kind == 0 || x.Kind == 2:
		return bare && x.Many == 0 && len(x.Names) == 0 && len(x.Exprs) == 1
	}
	return false
}

func configTextByRule(l []impl.Item) string {
	var out strings.Builder
	for _, x := range l {
		out.WriteString([]string{"local ", "res ", "out "}[x.Kind] + string(x.Name))
		if x.Kind != impl.ItRes {
			out.WriteString(" = " + exprTextByRule(x.Exprs[0]) + "\n")
			continue
		}
		if x.Many != 0 {
			out.WriteString([]string{"", " count ", " each "}[x.Many] + exprTextByRule(x.By))
		}
		out.WriteString(" {")
		for i, e := range x.Exprs {
			out.WriteString(" " + string(x.Names[i]) + " = " + exprTextByRule(e))
		}
		out.WriteString(" }\n")
	}
	return out.String()
}

// derived draws tokens that have the form of a symbol of the grammar, but for NAMEs that ascend.
func (d *draw) derived(symbol string, fuel int) []string {
	lines := grammar[symbol]
	switch symbol {
	case "NAME":
		return []string{[]string{"a", "b", "c", "key", "res", "count", "abcdefgh"}[d.upTo(7)]}
	case "WORD":
		return []string{[]string{"a", "b", "web", "net", "abcdefgh"}[d.upTo(5)]}
	case "NUMBER":
		return []string{[]string{"0", "1", "20", "1000000000000"}[d.upTo(4)]}
	case "TEXT":
		return []string{[]string{`""`, `"a b"`, `"\"\\"`, `"01234567890123456789"`}[d.upTo(4)]}
	}
	if lines == nil {
		return []string{symbol}
	}
	line := lines[d.upTo(len(lines))]
	if fuel <= 0 {
		line = lines[0]
		if symbol == "sign" {
			line = []string{"tail"}
		}
	}
	var out []string
	for _, s := range line {
		out = append(out, d.derived(s, fuel-1-d.upTo(3))...)
	}
	return out
}

// spaced joins tokens, with no more than a few blanks and bytes 10 ahead, between and behind.
func (d *draw) spaced(tokens []string) string {
	gap := func() string { return []string{"", " ", " ", "\n", "  ", " \n "}[d.upTo(6)] }
	out := gap()
	for i, token := range tokens {
		between := gap()
		// Two pieces of letters, or of digits, would be one.
		if between == "" && i > 0 && mergesWith(tokens[i-1], token) {
			between = " "
		}
		if i > 0 {
			out += between
		}
		out += token
	}
	return out + gap()
}

// mergesWith tells whether two tokens without a blank between would be read as others.
func mergesWith(a string, b string) bool {
	pieces, none := piecesByRule(a + b)
	return none >= 0 || len(pieces) != 2 || pieces[0].text != a
}

// meddledText is s with a few bytes or tokens taken out, put in, or put elsewhere.
func (d *draw) meddledText(s string) string {
	bits := []string{"1", "a", "res", "count", "null", `"x"`, "(", ")", "[", "]", "{", "}", "=", "==", "<", "!", "+", "-", "*", "?", ":", ",", ".", "$", "&&", "||", " ", "\n", "&", "|", "A", "0", `"`, `\`, "local", "out", "a = 1", "abcdefghi", "\x00", "\xff", "\t", ">"}
	for range 1 + d.upTo(3) {
		at := d.upTo(len(s) + 1)
		switch d.upTo(4) {
		case 0:
			s = s[:at]
		case 1, 2:
			s = s[:at] + bits[d.upTo(len(bits))] + s[at:]
		case 3:
			to := min(len(s), at+1+d.upTo(4))
			s = s[:at] + s[to:]
		}
	}
	return s
}
