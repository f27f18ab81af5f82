package tests

import (
	"bytes"
	"math"
	"slices"
	"strconv"
	"strings"
	"testing"

	"loop.example/g00407/impl"
)

var evBegin = impl.Event{Kind: impl.EvBegin}
var evEnd = impl.Event{Kind: impl.EvEnd}
var evReset = impl.Event{Kind: impl.EvReset}

func evIntent(addr string, act int) impl.Event {
	return impl.Event{Kind: impl.EvIntent, Addr: []byte(addr), Act: act}
}

// evDone takes addresses, parted by blanks, for Deps.
func evDone(addr string, v impl.Value, deps string) impl.Event {
	return impl.Event{Kind: impl.EvDone, Addr: []byte(addr), Val: v, Deps: keysOf(deps)}
}

func evGone(addr string) impl.Event { return impl.Event{Kind: impl.EvGone, Addr: []byte(addr)} }
func evFail(addr string) impl.Event { return impl.Event{Kind: impl.EvFail, Addr: []byte(addr)} }

func withAddr(kind int) bool {
	return kind == impl.EvIntent || kind == impl.EvDone || kind == impl.EvGone || kind == impl.EvFail
}

// deepUnknown is a map with something unknown as deep as may be.
func deepUnknown() impl.Value { return vMap("a b", vInt(1), vMap("k", vList(vMap("z", vUnknown)))) }

// knownByRule tells whether v is a known map.
func knownByRule(v impl.Value) bool {
	return v.Kind == impl.VkMap && impl.ValOk(v) && !strings.Contains(bytesOfKinds(v), "6")
}

// bytesOfKinds are the kinds of all parts of a value that may be.
func bytesOfKinds(v impl.Value) string {
	out := strconv.Itoa(v.Kind)
	for _, x := range v.L {
		out += bytesOfKinds(x)
	}
	return out
}

// depsByRule tells whether these may be Deps.
func depsByRule(deps [][]byte) bool {
	for i, dep := range deps {
		if !anAddr.Match(dep) || i > 0 && string(deps[i-1]) >= string(dep) {
			return false
		}
	}
	return len(deps) <= 8
}

func zeroByRule(v impl.Value) bool {
	return v.Kind == 0 && v.N == 0 && len(v.S) == 0 && len(v.K) == 0 && len(v.L) == 0
}

// eventByRule tells whether e may be.
func eventByRule(e impl.Event) bool {
	noVal := zeroByRule(e.Val) && len(e.Deps) == 0
	switch e.Kind {
	case 0, 5, 6:
		return len(e.Addr) == 0 && e.Act == 0 && noVal
	case 1:
		return anAddr.Match(e.Addr) && e.Act >= 1 && e.Act <= 4 && noVal
	case 2:
		return anAddr.Match(e.Addr) && e.Act == 0 && knownByRule(e.Val) && depsByRule(e.Deps)
	case 3, 4:
		return anAddr.Match(e.Addr) && e.Act == 0 && noVal
	}
	return false
}

// eventBytesByRule writes an event that may be.
func eventBytesByRule(e impl.Event) string {
	text := func(b []byte) string { return string(rune(len(b))) + string(b) }
	out := string(rune(e.Kind))
	if withAddr(e.Kind) {
		out += text(e.Addr)
	}
	if e.Kind == impl.EvIntent {
		out += string(rune(e.Act))
	}
	if e.Kind == impl.EvDone {
		out += string(rune(len(e.Deps)))
		for _, dep := range e.Deps {
			out += text(dep)
		}
		out += bytesByRule(e.Val)
	}
	return out
}

// eventCases: events that may be, with their bytes.
var eventCases = []struct {
	e     impl.Event
	bytes string
}{
	{impl.Event{}, "\x00"},
	{evBegin, "\x00"},
	{evIntent("db", impl.AcCreate), "\x01\x02db\x01"},
	{evIntent("db", impl.AcUpdate), "\x01\x02db\x02"},
	{evIntent("db", impl.AcReplace), "\x01\x02db\x03"},
	{evIntent("db", impl.AcDelete), "\x01\x02db\x04"},
	{evIntent("web[7]", impl.AcCreate), "\x01\x06web[7]\x01"},
	{evIntent(`abcdefgh["abcdefgh"]`, impl.AcDelete), "\x01\x14abcdefgh[\"abcdefgh\"]\x04"},
	{evDone("a", vMap(""), ""), "\x02\x01a\x00\x05\x00"},
	{evDone("a", vMap("k", vInt(-3)), ""), "\x02\x01a\x00\x05\x01\x01k\x02\x01\x00\x03"},
	{evDone("a", vMap(""), "b"), "\x02\x01a\x01\x01b\x05\x00"},
	{evDone("a[10]", vMap("k z", vNull, vList(vTrue)), `a["x"] a[0] b`), "\x02\x05a[10]\x03\x06a[\"x\"]\x04a[0]\x01b\x05\x02\x01k\x00\x01z\x04\x01\x01\x01"},
	{evDone("a", vMap(""), "a"), "\x02\x01a\x01\x01a\x05\x00"},
	{evGone("z"), "\x03\x01z"},
	{evGone(`a["b"]`), "\x03\x06a[\"b\"]"},
	{evFail("zzzzzzzz"), "\x04\x08zzzzzzzz"},
	{evFail("a[99]"), "\x04\x05a[99]"},
	{evEnd, "\x05"},
	{evReset, "\x06"},
}

// goodEvents are those, and events at the limits.
func goodEvents() []impl.Event {
	var out []impl.Event
	for _, c := range eventCases {
		out = append(out, c.e)
	}
	for _, c := range goodAddrs {
		out = append(out, evIntent(c.addr, impl.AcUpdate), evDone(c.addr, vMap("a", vText(`"`)), c.addr), evGone(c.addr), evFail(c.addr))
	}
	for n := range impl.MaxDeps + 1 {
		out = append(out, evDone("k", vMap("a", vInt(n)), manyKeys(n)))
	}
	return append(out, evDone("a", wideMap(impl.MaxParts), `abcdefgh["abcdefgh"] abcdefgh["abcdefgi"] zzzzzzzz`), evDone("a", deepMaps(5), ""), evDone("a", vMap("k", deepLists(4)), ""))
}

// badEvents: events that may not be, each for one reason.
func badEvents() map[string]impl.Event {
	out := map[string]impl.Event{}
	for _, kind := range []int{-1, 7, 8, 128, math.MinInt, math.MaxInt, 1 << 32} {
		why := "kind " + strconv.Itoa(kind)
		out[why] = impl.Event{Kind: kind}
		out[why+" with an address"] = impl.Event{Kind: kind, Addr: []byte("a")}
		out[why+" with an act"] = impl.Event{Kind: kind, Addr: []byte("a"), Act: impl.AcCreate}
		out[why+" with a value"] = impl.Event{Kind: kind, Addr: []byte("a"), Val: vMap("")}
	}
	for kind := impl.EvBegin; kind <= impl.EvReset; kind++ {
		what := "kind " + strconv.Itoa(kind) + " with "
		base := impl.Event{Kind: kind}
		if withAddr(kind) {
			base.Addr = []byte("a")
		}
		if kind == impl.EvIntent {
			base.Act = impl.AcCreate
		}
		if kind == impl.EvDone {
			base.Val = vMap("")
		}
		set := func(why string, change func(*impl.Event)) {
			e := base
			change(&e)
			out[what+why] = e
		}
		if withAddr(kind) {
			set("no address", func(e *impl.Event) { e.Addr = nil })
			for _, c := range badAddrs {
				set(c.why+" for an address", func(e *impl.Event) { e.Addr = []byte(c.addr) })
			}
		} else {
			set("an address", func(e *impl.Event) { e.Addr = []byte("a") })
			set("what is no address", func(e *impl.Event) { e.Addr = []byte("A") })
			set("byte 0 for an address", func(e *impl.Event) { e.Addr = []byte{0} })
		}
		for _, act := range []int{-1, impl.AcNone, impl.AcCreate, impl.AcDelete, impl.AcDelete + 1, math.MinInt, math.MaxInt} {
			if kind == impl.EvIntent && act != impl.AcCreate && act != impl.AcDelete || kind != impl.EvIntent && act != impl.AcNone {
				set("act "+strconv.Itoa(act), func(e *impl.Event) { e.Act = act })
			}
		}
		if kind != impl.EvDone {
			set("a dep", func(e *impl.Event) { e.Deps = keysOf("a") })
			set("an empty dep", func(e *impl.Event) { e.Deps = [][]byte{nil} })
			for i, v := range []impl.Value{vMap(""), vMap("a", vNull), vList(), vFalse, vInt(0), vText(""), vUnknown, {N: 1}, {S: []byte("a")}, {K: keysOf("a")}, {L: []impl.Value{vNull}}, {K: [][]byte{nil}}} {
				set("value "+strconv.Itoa(i), func(e *impl.Event) { e.Val = v })
			}
		}
	}
	addBadThings(func(why string, v impl.Value, deps [][]byte) {
		out["done with "+why] = impl.Event{Kind: impl.EvDone, Addr: []byte("a"), Val: v, Deps: deps}
	})
	return out
}

// addBadThings tells values and Deps that neither an event nor an entry may have, each for one reason.
func addBadThings(tell func(why string, v impl.Value, deps [][]byte)) {
	for i, v := range []impl.Value{vNull, vFalse, vTrue, vInt(0), vText(""), vList(), vList(vMap("")), vUnknown} {
		tell("no map "+strconv.Itoa(i), v, nil)
	}
	tell("something unknown", vMap("a", vUnknown), nil)
	tell("something unknown behind", vMap("a b", vNull, vUnknown), nil)
	tell("something unknown deep down", deepUnknown(), nil)
	tell("something unknown in a list", vMap("a", vList(vNull, vUnknown, vNull)), nil)
	for why, v := range badValues() {
		tell(why, v, nil)
		tell(why+" in the map", vMap("a", v), nil)
	}
	deps := func(why string, list ...string) {
		var l [][]byte
		for _, dep := range list {
			l = append(l, []byte(dep))
		}
		tell("deps: "+why, vMap("a", vNull), l)
	}
	deps("one too many", strings.Fields(manyKeys(impl.MaxDeps+1))...)
	deps("far too many", strings.Fields(manyKeys(600))...)
	deps("twice", "a", "a")
	deps("twice at the end", "a", "b", "b")
	deps("twice with one between", "a", "b", "a")
	deps("descending", "b", "a")
	deps("descending at the end", "a", "c", "b")
	deps("descending by bytes", "a[1]", "a[10]")
	deps("a number ahead of a key", "a[1]", `a["b"]`)
	deps("the longer one ahead", "ab", "a")
	for _, c := range badAddrs {
		deps(c.why, c.addr)
		deps(c.why+" behind others", "a", `a["b"]`, c.addr)
		deps(c.why+" ahead of others", c.addr, "zz", "zzz")
	}
}

// knownMap draws a map that may be and is known.
func (d *draw) knownMap() impl.Value {
	for {
		if v := d.value(4); knownByRule(v) {
			return v
		}
	}
}

// someOf draws at most n of these, in their order.
func (d *draw) someOf(n int, of ...string) [][]byte {
	var out [][]byte
	for _, text := range of {
		if len(out) < n && d.upTo(2) == 0 {
			out = append(out, []byte(text))
		}
	}
	return out
}

// event draws one that may be, at one of these addresses.
func (d *draw) event(addrs ...string) impl.Event {
	addr := addrs[d.upTo(len(addrs))]
	switch d.upTo(9) {
	case 0:
		return evBegin
	case 1, 2, 3:
		return evIntent(addr, impl.AcCreate+d.upTo(4))
	case 4, 5:
		e := evDone(addr, d.knownMap(), "")
		e.Deps = d.someOf(impl.MaxDeps, addrs...)
		return e
	case 6:
		return evGone(addr)
	case 7:
		return evFail(addr)
	}
	return []impl.Event{evEnd, evEnd, evReset}[d.upTo(3)]
}

func drawnEvents(n int) []impl.Event {
	d := draw(n)
	var addrs []string
	for _, c := range goodAddrs {
		addrs = append(addrs, c.addr)
	}
	var out []impl.Event
	for range n {
		out = append(out, d.event(addrs...))
	}
	return out
}

func TestStateLimits(t *testing.T) {
	if impl.MaxEntries != 16 || impl.MaxDeps != 8 || impl.MaxSerial != 1000000 {
		t.Error("limits")
	}
	for want, kind := range []int{impl.EvBegin, impl.EvIntent, impl.EvDone, impl.EvGone, impl.EvFail, impl.EvEnd, impl.EvReset} {
		if kind != want {
			t.Error("kind", want)
		}
	}
	for want, act := range []int{impl.AcNone, impl.AcCreate, impl.AcUpdate, impl.AcReplace, impl.AcDelete} {
		if act != want {
			t.Error("act", want)
		}
	}
}

func TestEventsThatMayBe(t *testing.T) {
	for _, c := range eventCases {
		if b, ok := impl.EventBytes(c.e); !ok || string(b) != c.bytes || eventBytesByRule(c.e) != c.bytes {
			t.Errorf("%q, not %q", b, c.bytes)
		}
	}
	for _, e := range append(goodEvents(), drawnEvents(2000)...) {
		if !impl.EventOk(e) || !eventByRule(e) {
			t.Fatal(e)
		}
	}
}

func TestEventsThatMayNotBe(t *testing.T) {
	for why, e := range badEvents() {
		if impl.EventOk(e) || eventByRule(e) {
			t.Error(why)
		}
		if b, ok := impl.EventBytes(e); ok || len(b) != 0 {
			t.Errorf("%s: %q", why, b)
		}
	}
}

// TestEachFieldOfEachKind puts all fields together with all kinds.
func TestEachFieldOfEachKind(t *testing.T) {
	fine := 0
	for kind := -1; kind <= 8; kind++ {
		for _, addr := range []string{"", "a", "a[1]", "A"} {
			for act := -1; act <= 6; act++ {
				for _, v := range []impl.Value{{}, vMap(""), vMap("a", vNull), vMap("a", vUnknown), vList(), vFalse, {N: 1}} {
					for _, deps := range [][][]byte{nil, {}, keysOf("a b"), keysOf("b a"), {nil}} {
						e := impl.Event{Kind: kind, Addr: []byte(addr), Act: act, Val: v, Deps: deps}
						_, ok := impl.EventBytes(e)
						if impl.EventOk(e) != eventByRule(e) || ok != eventByRule(e) {
							t.Fatal(e)
						}
						if ok {
							fine++
						}
					}
				}
			}
		}
	}
	// Three of no address, those of an act and two more at each of two addresses, all twice; and of each of two values three deps.
	if fine != 3*2+2*(4+2)*2+2*2*3 {
		t.Error(fine)
	}
}

func TestEventsComeBack(t *testing.T) {
	for _, e := range append(goodEvents(), drawnEvents(3000)...) {
		b, ok := impl.EventBytes(e)
		if !ok || string(b) != eventBytesByRule(e) {
			t.Fatalf("%v: %q", e, b)
		}
		back, fine := impl.EventRead(b)
		if !fine || !alike(back, e) {
			t.Fatalf("%v came back as %v", e, back)
		}
	}
}

// readsJustEvent fails where b is read as an event whose bytes are others, and tells whether it is read.
func readsJustEvent(t *testing.T, b []byte) bool {
	t.Helper()
	e, ok := impl.EventRead(b)
	if !ok {
		if !alike(e, impl.Event{}) {
			t.Fatalf("EventRead(%q) = %v, false", b, e)
		}
		return false
	}
	if again, fine := impl.EventBytes(e); !eventByRule(e) || !fine || !bytes.Equal(again, b) || eventBytesByRule(e) != string(b) {
		t.Fatalf("EventRead(%q) = %v", b, e)
	}
	return true
}

func TestBytesThatAreNoEvent(t *testing.T) {
	deps := func(n int) string {
		out := string(rune(n))
		for _, dep := range strings.Fields(manyKeys(n)) {
			out += "\x02" + dep
		}
		return out
	}
	for _, c := range []struct {
		why, bytes string
	}{
		{"nothing", ""},
		{"kind 7", "\x07"},
		{"kind 7 with an address", "\x07\x01a"},
		{"kind 127", "\x7f"},
		{"kind 128", "\x80\x01"},
		{"kind 0 in two bytes", "\x80\x00"},
		{"kind 5 in two bytes", "\x85\x00"},
		{"kind not all there", "\x80"},
		{"kind MaxNum", "\xff\xff\xff\xff\x07"},
		{"kind above MaxNum", "\xff\xff\xff\xff\x08"},
		{"begin with more", "\x00\x00"},
		{"begin with an address", "\x00\x01a"},
		{"end with more", "\x05\x05"},
		{"end with an address", "\x05\x01a"},
		{"reset with more", "\x06\x00"},
		{"reset with an address", "\x06\x01a"},
		{"intent alone", "\x01"},
		{"intent without an act", "\x01\x01a"},
		{"intent with an empty address", "\x01\x00\x01"},
		{"intent with what is no address", "\x01\x01A\x01"},
		{"intent with half an address", "\x01\x03a[1\x01"},
		{"intent with a needless nought", "\x01\x05a[01]\x01"},
		{"intent with an address of 21 bytes", "\x01\x15abcdefghi[\"abcdefgh\"]\x01"},
		{"intent with an address that is not all there", "\x01\x05db\x01"},
		{"intent with a length of two bytes", "\x01\x82\x00db\x01"},
		{"intent with a length of MaxNum", "\x01\xff\xff\xff\xff\x07db\x01"},
		{"intent of none", "\x01\x01a\x00"},
		{"intent of act 5", "\x01\x01a\x05"},
		{"intent of act 129", "\x01\x01a\x81\x01"},
		{"intent of an act in two bytes", "\x01\x01a\x81\x00"},
		{"intent of an act that is not all there", "\x01\x01a\x81"},
		{"intent with more", "\x01\x01a\x01\x00"},
		{"done alone", "\x02"},
		{"done with an address alone", "\x02\x01a"},
		{"done without a value", "\x02\x01a\x00"},
		{"done without deps", "\x02\x01a\x05\x00"},
		{"done with an empty address", "\x02\x00\x00\x05\x00"},
		{"done with what is no address", "\x02\x01A\x00\x05\x00"},
		{"done with null", "\x02\x01a\x00\x00"},
		{"done with a list", "\x02\x01a\x00\x04\x00"},
		{"done with unknown", "\x02\x01a\x00\x06"},
		{"done with something unknown", "\x02\x01a\x00\x05\x01\x01k\x06"},
		{"done with something unknown deep down", "\x02\x01a\x00\x05\x01\x01k\x04\x01\x05\x01\x01k\x06"},
		{"done with half a map", "\x02\x01a\x00\x05\x01\x01k"},
		{"done with a map of MaxNum", "\x02\x01a\x00\x05\xff\xff\xff\xff\x07\x01k\x00"},
		{"done with a map that descends", "\x02\x01a\x00\x05\x02\x01l\x00\x01k\x00"},
		{"done with a count in two bytes", "\x02\x01a\x80\x00\x05\x00"},
		{"done with a kind in two bytes", "\x02\x01a\x00\x85\x00\x00"},
		{"done with minus 0", "\x02\x01a\x00\x05\x01\x01k\x02\x01\x00\x00"},
		{"done with a dep too few", "\x02\x01a\x02\x01b\x05\x00"},
		{"done with a dep too many", "\x02\x01a\x01\x01b\x01c\x05\x00"},
		{"done with MaxNum deps", "\x02\x01a\xff\xff\xff\xff\x07\x01b\x05\x00"},
		{"done with nothing behind MaxNum deps", "\x02\x01a\xff\xff\xff\xff\x07"},
		{"done with an empty dep", "\x02\x01a\x01\x00\x05\x00"},
		{"done with a dep that is no address", "\x02\x01a\x01\x01B\x05\x00"},
		{"done with deps that descend", "\x02\x01a\x02\x01c\x01b\x05\x00"},
		{"done with a dep twice", "\x02\x01a\x02\x01b\x01b\x05\x00"},
		{"done with MaxDeps + 1 deps", "\x02\x01a" + deps(impl.MaxDeps+1) + "\x05\x00"},
		{"done with many deps", "\x02\x01a" + deps(100) + "\x05\x00"},
		{"done with many empty deps", "\x02\x01a\xa0\x8d\x06" + strings.Repeat("\x00", 100000)},
		{"done with too many parts", "\x02\x01a\x00\x05\x01\x01k\x04\x27" + strings.Repeat("\x00", 39)},
		{"done with too deep a map", "\x02\x01a\x00" + strings.Repeat("\x05\x01\x01a", 5) + "\x05\x00"},
		{"done with far too deep a map", "\x02\x01a\x00" + strings.Repeat("\x05\x01\x01a", 100000) + "\x05\x00"},
		{"done with more", "\x02\x01a\x00\x05\x00\x00"},
		{"done with an act", "\x02\x01a\x01\x00\x05\x00"},
		{"gone alone", "\x03"},
		{"gone with an empty address", "\x03\x00"},
		{"gone with what is no address", "\x03\x02[]"},
		{"gone with half an address", "\x03\x02a"},
		{"gone with more", "\x03\x01a\x00"},
		{"gone with an act", "\x03\x01a\x04"},
		{"fail alone", "\x04"},
		{"fail with an empty address", "\x04\x00"},
		{"fail with what is no address", "\x04\x01 "},
		{"fail with more", "\x04\x01a\x00"},
		{"fail with a value", "\x04\x01a\x05\x00"},
	} {
		if e, ok := impl.EventRead([]byte(c.bytes)); ok || !alike(e, impl.Event{}) {
			t.Errorf("%s: read as %v", c.why, e)
		}
	}
	if e, ok := impl.EventRead(nil); ok || !alike(e, impl.Event{}) {
		t.Error("nil is read as", e)
	}
	most := "\x02\x01a" + deps(impl.MaxDeps) + "\x05\x00"
	if e, ok := impl.EventRead([]byte(most)); !ok || len(e.Deps) != 8 {
		t.Error("MaxDeps are read as", e)
	}
}

func TestReadEventsAreJustTheirBytes(t *testing.T) {
	read := 0
	check := func(b []byte) {
		if readsJustEvent(t, b) {
			read++
		}
	}
	eachBytes([]byte{0, 1, 2, 3, 4, 5, 6, 7, 'a', 'b', 128, 255}, 5, check)
	eachBytes([]byte{0, 1, 2, 5, 'a', 'b'}, 7, check)
	if read < 40 {
		t.Error("only", read, "were read")
	}
}

// TestBytesBesideEvents takes the bytes of events cut short, with more behind, and with one other byte.
func TestBytesBesideEvents(t *testing.T) {
	for _, e := range append(goodEvents(), drawnEvents(300)...) {
		b := []byte(eventBytesByRule(e))
		for cut := range b {
			if readsJustEvent(t, b[:cut]) {
				t.Fatalf("%q of %q was read", b[:cut], b)
			}
		}
		for _, more := range []string{"\x00", "\x01", "\x80", "a", string(b)} {
			if readsJustEvent(t, append(bytes.Clone(b), more...)) {
				t.Fatalf("%q with %q behind was read", b, more)
			}
		}
		for at := range b {
			for _, c := range []byte{0, 1, 2, 5, 6, 7, 31, 'a', 'z', '[', '"', 127, 128, 255, b[at] + 1, b[at] - 1} {
				other := bytes.Clone(b)
				other[at] = c
				readsJustEvent(t, other)
			}
			// The same number in one byte more.
			wide := slices.Concat(b[:at], []byte{b[at] | 128, 0}, b[at+1:])
			readsJustEvent(t, wide)
			readsJustEvent(t, slices.Delete(bytes.Clone(b), at, at+1))
		}
	}
}

// looseDeps copies a list of texts with marked room behind it and them.
func looseDeps(deps [][]byte) [][]byte {
	var out [][]byte
	for _, dep := range deps {
		out = append(out, roomyOf(dep, 'q'))
	}
	return roomyOf(out, []byte("zzzzzzzz"))
}

// looseEvent copies e with marked room behind each of its lists.
func looseEvent(e impl.Event) impl.Event {
	return impl.Event{Kind: e.Kind, Addr: roomyOf(e.Addr, 'q'), Act: e.Act, Val: loose(e.Val), Deps: looseDeps(e.Deps)}
}

func TestEventConventions(t *testing.T) {
	events := append(goodEvents(), drawnEvents(100)...)
	for _, e := range badEvents() {
		if partsByRuleUpTo(e.Val, 100) < 100 && len(e.Addr) < 100 {
			events = append(events, e)
		}
	}
	for _, e := range events {
		given := looseEvent(e)
		plainly, ok := impl.EventBytes(e)
		stays(t, "EventBytes", given, func() {
			b, fine := impl.EventBytes(given)
			if fine != ok || !bytes.Equal(b, plainly) || impl.EventOk(given) != ok {
				t.Errorf("%v: the room behind a list plays a part", e)
			}
			newMemory(t, "EventBytes", []any{b}, []any{given})
		})
		wide := roomyOf(plainly, mark)
		stays(t, "EventRead", wide, func() {
			back, fine := impl.EventRead(wide)
			if fine != ok {
				t.Errorf("%q: the room behind it plays a part", wide)
			}
			newMemory(t, "EventRead", []any{back}, []any{wide})
		})
	}
}

// partsByRuleUpTo counts no more parts than so many, of values without end, too.
func partsByRuleUpTo(v impl.Value, most int) int {
	n := 1
	for _, x := range v.L {
		if n >= most {
			break
		}
		n += partsByRuleUpTo(x, most-n)
	}
	return n
}

// TestEmptyAndNilEvents: an empty list and nil are the same.
func TestEmptyAndNilEvents(t *testing.T) {
	for _, e := range goodEvents() {
		full := e
		if len(e.Addr) == 0 {
			full.Addr = []byte{}
		}
		if len(e.Deps) == 0 {
			full.Deps = [][]byte{}
		}
		if len(e.Val.L) == 0 {
			full.Val.S, full.Val.K, full.Val.L = []byte{}, [][]byte{}, []impl.Value{}
		}
		b, ok := impl.EventBytes(full)
		if !ok || !impl.EventOk(full) || string(b) != eventBytesByRule(e) {
			t.Error(e)
		}
	}
}

// TestSharedDepsComeApart: texts of an argument may share memory, those of an answer may not.
func TestSharedDepsComeApart(t *testing.T) {
	one := []byte("abc")
	e := impl.Event{Kind: impl.EvDone, Addr: one, Val: vMap("a", vList(vText("x"), vText("x"))), Deps: [][]byte{one[:1], one[:2], one}}
	b, ok := impl.EventBytes(e)
	back, fine := impl.EventRead(b)
	if !ok || !fine || !alike(back, e) {
		t.Fatal(back)
	}
	newMemory(t, "EventRead", []any{back}, []any{b, e})
}
