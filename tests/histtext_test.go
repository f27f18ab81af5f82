package tests

import (
	"encoding/binary"
	"strconv"
	"strings"
	"testing"

	"loop.example/g00407/impl"
)

// eventTextByRule writes an event that may be.
func eventTextByRule(e impl.Event) string {
	words := []string{strings.Fields("begin intent done gone fail end reset")[e.Kind]}
	if withAddr(e.Kind) {
		words = append(words, string(e.Addr))
	}
	if e.Kind == impl.EvIntent {
		words = append(words, strings.Fields("- create update replace delete")[e.Act])
	}
	if e.Kind == impl.EvDone {
		words = append(words, textByRule(e.Val))
	}
	return strings.Join(words, " ")
}

func TestEventText(t *testing.T) {
	for _, c := range []struct {
		e    impl.Event
		want string
	}{
		{impl.Event{}, "begin"},
		{evBegin, "begin"},
		{evIntent("a", impl.AcCreate), "intent a create"},
		{evIntent("web[7]", impl.AcUpdate), "intent web[7] update"},
		{evIntent(`web["db"]`, impl.AcReplace), `intent web["db"] replace`},
		{evIntent("a", impl.AcDelete), "intent a delete"},
		{evDone("a", vMap(""), ""), "done a {}"},
		{evDone("a", vMap("k", vInt(-3)), "b c"), "done a {k = -3}"},
		{evDone(`a["x"]`, vMap("k l", vText(`"\`), vList(vTrue, vNull)), "b"), `done a["x"] {k = "\"\\", l = [true, null]}`},
		{evGone("a[10]"), "gone a[10]"},
		{evFail("zzzzzzzz"), "fail zzzzzzzz"},
		{evEnd, "end"},
		{evReset, "reset"},
	} {
		if got := string(impl.EventText(c.e)); got != c.want {
			t.Errorf("%q, not %q", got, c.want)
		}
	}
	for _, e := range append(goodEvents(), drawnEvents(1000)...) {
		if got := string(impl.EventText(e)); got != eventTextByRule(e) {
			t.Fatalf("%q, not %q", got, eventTextByRule(e))
		}
	}
	for why, e := range badEvents() {
		if got := impl.EventText(e); len(got) != 0 {
			t.Errorf("%s: %q", why, got)
		}
	}
}

func TestEventTextConventions(t *testing.T) {
	for _, e := range append(goodEvents(), drawnEvents(100)...) {
		given := looseEvent(e)
		stays(t, "EventText", given, func() {
			text := impl.EventText(given)
			if string(text) != eventTextByRule(e) {
				t.Errorf("%q: the room behind a list plays a part", text)
			}
			newMemory(t, "EventText", []any{text}, []any{given})
		})
	}
}

func TestHistTextPlainly(t *testing.T) {
	want := `41 begin
42 intent a create
43 done a {k = 1, l = ["x", "y"]}
44 intent b create
45 done b {k = 1}
46 end
47 begin
48 intent a update
49 fail a
50 intent a replace
51 done a {k = 2, l = ["x", "z"]}
52 intent b delete
53 gone b
54 intent c[3] create
55 reset
56 begin
57 intent b create
58 done b {k = 1}
59 intent a update
60 done a {k = 1, l = ["x", "z"]}
61 intent a delete
62 fail a
63 end
`
	if got := string(impl.HistText(histOf(calm(40, false), 3, life()...))); got != want {
		t.Error(got)
	}
	if got := string(impl.HistText(histOf(impl.State{}, 0, evBegin))); got != "1 begin\n" {
		t.Errorf("%q", got)
	}
	if got := string(impl.HistText(histOf(calm(impl.MaxSerial-1, true), 0, evReset))); got != "1000000 reset\n" {
		t.Errorf("%q", got)
	}
	for _, none := range []impl.History{{}, histOf(calm(9, true, two()...), 0)} {
		if got := impl.HistText(none); len(got) != 0 {
			t.Errorf("%q", got)
		}
	}
}

func TestHistTextByRule(t *testing.T) {
	for why, h := range manyHistories(200, 40) {
		want := ""
		for i, e := range h.Events {
			want += strconv.Itoa(h.Base.Serial+i+1) + " " + eventTextByRule(e) + "\n"
		}
		if got := string(impl.HistText(h)); got != want {
			t.Fatalf("%s: %q, not %q", why, got, want)
		}
	}
}

func TestHistBytesPlainly(t *testing.T) {
	h := histOf(calm(9, false), 2, evBegin, evIntent("db", impl.AcCreate), evDone("db", vMap("k", vInt(-3)), "b"), evEnd)
	if b, ok := impl.HistBytes(h); !ok || string(b) != "\x01\x00"+"\x05\x01\x02db\x01"+"\x0f\x02\x02db\x01\x01b\x05\x01\x01k\x02\x01\x00\x03"+"\x01\x05" {
		t.Errorf("%q, %v", b, ok)
	}
	for _, none := range []impl.History{{}, histOf(calm(9, true, two()...), 0)} {
		if b, ok := impl.HistBytes(none); !ok || len(b) != 0 {
			t.Errorf("%q, %v", b, ok)
		}
	}
}

// TestHistBytesByRule: the bytes are the rule's, and from them all events come back.
func TestHistBytesByRule(t *testing.T) {
	long := 0
	for why, h := range manyHistories(200, 40) {
		var want []byte
		for _, e := range h.Events {
			one := eventBytesByRule(e)
			want = append(binary.AppendUvarint(want, uint64(len(one))), one...)
			if len(one) > 127 {
				long++
			}
		}
		b, ok := impl.HistBytes(h)
		if !ok || string(b) != string(want) {
			t.Fatalf("%s: %q, not %q", why, b, want)
		}
		at := 0
		for i, e := range h.Events {
			size, from := impl.GetNum(b, at)
			at = from + size
			if back, fine := impl.EventRead(b[from:at]); !fine || !alike(back, e) {
				t.Fatal(why, i, back)
			}
		}
		if at != len(b) {
			t.Error(why, at, len(b))
		}
	}
	if long < 100 {
		t.Error("only", long)
	}
}
