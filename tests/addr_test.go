package tests

import (
	"bytes"
	"math"
	"regexp"
	"slices"
	"strconv"
	"strings"
	"testing"

	"loop.example/g00407/impl"
)

// anAddr is just what an address may be.
var anAddr = regexp.MustCompile(`^([a-z]{1,8})(\[([0-9]|[1-9][0-9])\]|\["[a-z]{1,8}"\])?$`)

// goodAddrs: addresses, each with its first name, ascending.
var goodAddrs = []struct {
	addr, name string
}{
	{`a`, "a"},
	{`a["a"]`, "a"},
	{`a["abcdefgh"]`, "a"},
	{`a["b"]`, "a"},
	{`a[0]`, "a"},
	{`a[10]`, "a"},
	{`a[1]`, "a"},
	{`a[99]`, "a"},
	{`a[9]`, "a"},
	{`abcdefgh`, "abcdefgh"},
	{`abcdefgh["abcdefgh"]`, "abcdefgh"},
	{`abcdefgh["z"]`, "abcdefgh"},
	{`abcdefgh[42]`, "abcdefgh"},
	{`db`, "db"},
	{`db["web"]`, "db"},
	{`null["true"]`, "null"},
	{`z`, "z"},
	{`zzzzzzzz["zzzzzzzz"]`, "zzzzzzzz"},
	{`zzzzzzzz[99]`, "zzzzzzzz"},
}

// badAddrs: texts that are no addresses, each for one reason.
var badAddrs = []struct {
	why, addr string
}{
	{"the empty text", ""},
	{"a name of nine bytes", "abcdefghi"},
	{"a great name", "Web"},
	{"a great byte at the end", "weB"},
	{"a name with a digit", "web1"},
	{"a digit", "1"},
	{"a name with a dot", "web.a"},
	{"a blank ahead", " web"},
	{"a blank behind", "web "},
	{"a byte below a", "we`b"},
	{"a byte above z", "we{b"},
	{"byte 0 behind", "web\x00"},
	{"a byte above 127", "w\xc3\xa9b"},
	{"no name ahead of a number", "[1]"},
	{"no name ahead of a key", `["a"]`},
	{"no name ahead of an open bracket", "["},
	{"a great name ahead of a number", "Web[1]"},
	{"a name of nine bytes ahead of a number", "abcdefghi[1]"},
	{"a name of nine bytes ahead of a key", `abcdefghi["a"]`},
	{"a digit ahead of a number", "1[1]"},
	{"a nought ahead of a digit", "web[01]"},
	{"two noughts", "web[00]"},
	{"a nought ahead of two digits", "web[010]"},
	{"three digits", "web[100]"},
	{"three digits with noughts", "web[001]"},
	{"many digits", "web[" + strings.Repeat("9", 5000) + "]"},
	{"2 to the 64 and 1", "web[18446744073709551617]"},
	{"no digit", "web[]"},
	{"minus 1", "web[-1]"},
	{"minus 0", "web[-0]"},
	{"plus 1", "web[+1]"},
	{"a blank ahead of a digit", "web[ 1]"},
	{"a blank behind a digit", "web[1 ]"},
	{"an underscore", "web[1_0]"},
	{"another base", "web[0x1]"},
	{"a broken number", "web[1.]"},
	{"a letter behind a digit", "web[1a]"},
	{"a name without quotes", "web[a]"},
	{"a digit in quotes", `web["1"]`},
	{"a great key", `web["A"]`},
	{"a key of nine bytes", `web["abcdefghi"]`},
	{"a key with a blank", `web["a b"]`},
	{"a key with an address", `web["a[1]"]`},
	{"an empty key", `web[""]`},
	{"one quote alone", `web["]`},
	{"a quote and a name", `web["a]`},
	{"a name and a quote", `web[a"]`},
	{"two quotes ahead", `web[""a"]`},
	{"two quotes behind", `web["a""]`},
	{"two quotes on each side", `web[""a""]`},
	{"other quotes", `web['a']`},
	{"a quote in the key", `web["a"b"]`},
	{"a quoted name", `"web"`},
	{"a quoted name with a number", `"web"[1]`},
	{"a number in half a quote", `web["1]`},
	{"no closed bracket behind a name", "web["},
	{"no closed bracket behind a digit", "web[1"},
	{"no closed bracket behind a key", `web["a"`},
	{"no open bracket", "web1]"},
	{"no open bracket ahead of a key", `web"a"]`},
	{"a closed bracket alone", "web]"},
	{"two open brackets", "web[[1]"},
	{"two closed brackets", "web[1]]"},
	{"two brackets on each side", "web[[1]]"},
	{"two open brackets ahead of a key", `web[["a"]`},
	{"two closed brackets behind a key", `web["a"]]`},
	{"brackets the other way round", "web]1["},
	{"other brackets", "web(1)"},
	{"a number twice", "web[1][2]"},
	{"a key twice", `web["a"]["b"]`},
	{"a number and a key", `web[1]["a"]`},
	{"a name behind the last bracket", "web[1]a"},
	{"a name behind a key", `web["a"]a`},
	{"a blank behind the last bracket", "web[1] "},
	{"a blank behind a key", `web["a"] `},
	{"byte 0 behind the last bracket", "web[1]\x00"},
	{"a blank ahead of the bracket", "web [1]"},
	{"a long text", strings.Repeat("a", 100000)},
	{"many open brackets", "a" + strings.Repeat("[", 100000)},
	{"many closed brackets", "a[1" + strings.Repeat("]", 100000)},
	{"many quotes", "a[" + strings.Repeat(`"`, 100000) + "]"},
}

// notNames: texts that are no names.
var notNames = []string{"", "abcdefghi", "A", "aB", "a1", "1", " a", "a ", "a.b", "a[1]", `a["b"]`, `"a"`, "`", "{", "\x00", "a\x00", "\xff", strings.Repeat("a", 5000)}

// justAddr fails where what is told of b is not what it is.
func justAddr(t *testing.T, b []byte) bool {
	t.Helper()
	found := anAddr.FindSubmatch(b)
	name := impl.AddrName(b)
	if impl.AddrOk(b) != (found != nil) || found == nil && len(name) != 0 {
		t.Fatalf("%q: %v, %q", b, impl.AddrOk(b), name)
	}
	if found != nil && !bytes.Equal(name, found[1]) {
		t.Fatalf("%q has the name %q", b, name)
	}
	return found != nil
}

func TestAddrs(t *testing.T) {
	for _, c := range goodAddrs {
		if !impl.AddrOk([]byte(c.addr)) || string(impl.AddrName([]byte(c.addr))) != c.name || !justAddr(t, []byte(c.addr)) {
			t.Error(c.addr)
		}
	}
	for _, c := range badAddrs {
		if impl.AddrOk([]byte(c.addr)) || len(impl.AddrName([]byte(c.addr))) != 0 || justAddr(t, []byte(c.addr)) {
			t.Error(c.why)
		}
	}
	if impl.AddrOk(nil) || len(impl.AddrName(nil)) != 0 {
		t.Error("nil")
	}
}

func TestAddrsAreJustThese(t *testing.T) {
	found := 0
	check := func(b []byte) {
		if justAddr(t, b) {
			found++
		}
	}
	eachBytes([]byte(`a[]"01`), 7, check)
	if found < 20 {
		t.Error("only", found)
	}
	for c := range 256 {
		for _, text := range []string{"?", "a?", "?a", "a?1]", "a[?]", "a[1?]", "a[?1]", "a[1?", "a[1]?", `a?"b"]`, `a[?b"]`, `a["?"]`, `a["b?"]`, `a["b?]`, `a["b"?`, `a["b"]?`} {
			check(bytes.Replace([]byte(text), []byte("?"), []byte{byte(c)}, 1))
		}
	}
	for i := range 1200 {
		check([]byte("web[" + strconv.Itoa(i) + "]"))
		check([]byte("web[0" + strconv.Itoa(i) + "]"))
	}
	for size := range 12 {
		word := strings.Repeat("k", size)
		for _, addr := range []string{word, word + "[7]", word + `["k"]`, `k["` + word + `"]`, word + `["` + word + `"]`} {
			check([]byte(addr))
		}
	}
}

// TestAddrsOneByteApart takes addresses cut short, with a byte less, a byte more and a byte twice.
func TestAddrsOneByteApart(t *testing.T) {
	for _, c := range goodAddrs {
		for at := range c.addr {
			justAddr(t, []byte(c.addr[:at]))
			justAddr(t, []byte(c.addr[at:]))
			justAddr(t, []byte(c.addr[:at]+c.addr[at+1:]))
			justAddr(t, []byte(c.addr[:at+1]+c.addr[at:]))
			for _, more := range []string{"[", "]", `"`, "0", "1", "a", " "} {
				justAddr(t, []byte(c.addr[:at]+more+c.addr[at:]))
				justAddr(t, []byte(c.addr+more))
			}
		}
	}
}

func TestAddrItem(t *testing.T) {
	for i := -150; i <= 250; i++ {
		want := ""
		if 0 <= i && i <= 99 {
			want = "web[" + strconv.Itoa(i) + "]"
		}
		got := impl.AddrItem([]byte("web"), i)
		if string(got) != want || want != "" && (!impl.AddrOk(got) || string(impl.AddrName(got)) != "web") {
			t.Errorf("%d: %q", i, got)
		}
	}
	for _, i := range []int{math.MinInt, math.MinInt32, -100, -99, -10, -9, 1000, math.MaxInt32, math.MaxInt, 1 << 32, 1<<32 + 5, 1 << 62} {
		if got := impl.AddrItem([]byte("web"), i); len(got) != 0 {
			t.Errorf("%d: %q", i, got)
		}
	}
	for _, name := range notNames {
		for _, i := range []int{-1, 0, 9, 10, 99, 100} {
			if got := impl.AddrItem([]byte(name), i); len(got) != 0 {
				t.Errorf("%q, %d: %q", name, i, got)
			}
		}
	}
	if got := impl.AddrItem([]byte("abcdefgh"), 0); string(got) != "abcdefgh[0]" {
		t.Errorf("%q", got)
	}
}

func TestAddrKey(t *testing.T) {
	names := []string{"a", "z", "web", "abcdefgh", "zzzzzzzz", "null"}
	for _, name := range names {
		for _, key := range names {
			got := impl.AddrKey([]byte(name), []byte(key))
			if string(got) != name+`["`+key+`"]` || !impl.AddrOk(got) || string(impl.AddrName(got)) != name || len(got) > impl.MaxText {
				t.Errorf("%s, %s: %q", name, key, got)
			}
		}
		for _, bad := range notNames {
			if got := impl.AddrKey([]byte(name), []byte(bad)); len(got) != 0 {
				t.Errorf("%s, %q: %q", name, bad, got)
			}
			if got := impl.AddrKey([]byte(bad), []byte(name)); len(got) != 0 {
				t.Errorf("%q, %s: %q", bad, name, got)
			}
		}
	}
	for _, bad := range notNames {
		if got := impl.AddrKey([]byte(bad), []byte(bad)); len(got) != 0 {
			t.Errorf("%q: %q", bad, got)
		}
	}
	if len(impl.AddrKey(nil, nil)) != 0 || len(impl.AddrItem(nil, 0)) != 0 {
		t.Error("nil")
	}
}

func TestAddrsAreNewMemory(t *testing.T) {
	texts := slices.Clone(notNames)
	for _, c := range goodAddrs {
		texts = append(texts, c.addr, c.name)
	}
	for _, c := range badAddrs {
		texts = append(texts, c.addr)
	}
	for _, text := range texts {
		for _, other := range []string{"k", "abcdefgh", "A", ""} {
			// A name behind the length would make one of what is none.
			b, key := roomyOf([]byte(text), 'q'), roomyOf([]byte(other), 'q')
			for _, one := range []any{b, key} {
				stays(t, text, one, func() {
					given := []any{b, key}
					name, item, keyed := impl.AddrName(b), impl.AddrItem(b, 12), impl.AddrKey(b, key)
					newMemory(t, "AddrName of "+text, []any{name}, given)
					newMemory(t, "AddrItem of "+text, []any{item}, given)
					newMemory(t, "AddrKey of "+text, []any{keyed}, given)
					if impl.AddrOk(b) != impl.AddrOk([]byte(text)) || !alike(name, impl.AddrName([]byte(text))) || !alike(item, impl.AddrItem([]byte(text), 12)) || !alike(keyed, impl.AddrKey([]byte(text), []byte(other))) {
						t.Errorf("%q: the room behind it plays a part", text)
					}
				})
			}
		}
	}
	// One text may be both.
	one := []byte("web")
	newMemory(t, "AddrKey", []any{impl.AddrKey(one, one)}, []any{one})
	for cut := range len("web[12]") {
		justAddr(t, []byte("web[12]")[:cut])
	}
}
