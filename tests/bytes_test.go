package tests

import (
	"bytes"
	"math"
	"slices"
	"testing"

	"loop.example/g00407/impl"
)

// mark fills room that no function may read, write or hand out.
const mark = 0xEE

// numCases: the edges of each length, and what lies beside them.
var numCases = []struct {
	n     int
	bytes string
}{
	{0, "\x00"},
	{1, "\x01"},
	{127, "\x7f"},
	{128, "\x80\x01"},
	{129, "\x81\x01"},
	{300, "\xac\x02"},
	{16383, "\xff\x7f"},
	{16384, "\x80\x80\x01"},
	{1000000, "\xc0\x84\x3d"},
	{2097151, "\xff\xff\x7f"},
	{2097152, "\x80\x80\x80\x01"},
	{268435455, "\xff\xff\xff\x7f"},
	{268435456, "\x80\x80\x80\x80\x01"},
	{impl.MaxNum - 1, "\xfe\xff\xff\xff\x07"},
	{impl.MaxNum, "\xff\xff\xff\xff\x07"},
}

var numsOutside = []int{-1, -2, -128, math.MinInt, math.MinInt32, impl.MaxNum + 1, impl.MaxNum + 2, 1 << 35, 1<<35 + 1, 1 << 62, math.MaxInt}

func textOf(size int) []byte {
	t := make([]byte, size)
	for i := range t {
		t[i] = byte(251 * (i + 1))
	}
	return t
}

func TestLimits(t *testing.T) {
	if impl.MaxNum != 2147483647 || impl.MaxText != 20 {
		t.Fatal(impl.MaxNum, impl.MaxText)
	}
}

func TestNumsArePutAndGot(t *testing.T) {
	for _, ahead := range []string{"", "\x00", "ab", "\x80\x80", "\xff\xff\xff\xff\xff\xff"} {
		for _, c := range numCases {
			put := impl.PutNum([]byte(ahead), c.n)
			if string(put) != ahead+c.bytes {
				t.Fatalf("PutNum(%q, %d) = %q", ahead, c.n, put)
			}
			for _, behind := range []string{"", "\x00", "\x01", "\x80", "\xff\xff\xff\xff\xff"} {
				n, next := impl.GetNum([]byte(string(put)+behind), len(ahead))
				if n != c.n || next != len(put) {
					t.Fatalf("GetNum(%q + %q, %d) = %d, %d", put, behind, len(ahead), n, next)
				}
			}
		}
	}
}

func TestManyNumsComeBack(t *testing.T) {
	check := func(n int) {
		b := impl.PutNum([]byte{200}, n)
		got, next := impl.GetNum(b, 1)
		if got != n || next != len(b) || len(b) != 1+impl.NumLen(n) {
			t.Fatal(n, b, got, next, impl.NumLen(n))
		}
	}
	for n := range 40000 {
		check(n)
		check(impl.MaxNum - n)
	}
	for bit := range 31 {
		for off := -3; off <= 3; off++ {
			if n := 1<<bit + off; n >= 0 {
				check(n)
			}
		}
	}
}

func TestNumsOutsideAreLeftAway(t *testing.T) {
	for _, n := range numsOutside {
		for _, ahead := range []string{"", "\x05", "abc\x80"} {
			if got := impl.PutNum([]byte(ahead), n); string(got) != ahead {
				t.Errorf("PutNum(%q, %d) = %q", ahead, n, got)
			}
		}
	}
}

func TestNumLen(t *testing.T) {
	for _, c := range numCases {
		if got := impl.NumLen(c.n); got != len(c.bytes) {
			t.Errorf("NumLen(%d) = %d", c.n, got)
		}
	}
	for _, n := range numsOutside {
		if got := impl.NumLen(n); got != 0 {
			t.Errorf("NumLen(%d) = %d", n, got)
		}
	}
}

func TestNoNumThere(t *testing.T) {
	cases := []struct {
		why string
		b   string
		at  int
	}{
		{"at below 0", "\x01\x02", -1},
		{"at below 0", "\x01\x02", -2},
		{"at far below 0", "\x01\x02", math.MinInt},
		{"no bytes", "", 0},
		{"at the end", "\x01\x02", 2},
		{"behind the end", "\x01\x02", 3},
		{"far behind the end", "\x01\x02", math.MaxInt},
		{"behind the end of none", "", 1},
		{"one of two", "\x80", 0},
		{"one of two, behind another", "\x01\xff", 1},
		{"two of three", "\x80\x80", 0},
		{"three of four", "\x80\x80\x80", 0},
		{"four of five", "\xff\xff\xff\xff", 0},
		{"five, and more to come", "\xff\xff\xff\xff\x87", 0},
		{"six", "\x80\x80\x80\x80\x80\x01", 0},
		{"six of the number 1", "\x81\x80\x80\x80\x80\x00", 0},
		{"eleven", "\x80\x80\x80\x80\x80\x80\x80\x80\x80\x80\x01", 0},
		{"last of two is 0", "\x80\x00", 0},
		{"last of two is 0", "\xff\x00", 0},
		{"last of three is 0", "\x80\x81\x00", 0},
		{"last of four is 0", "\x80\x80\x81\x00", 0},
		{"last of five is 0", "\xff\xff\xff\xff\x00", 0},
		{"MaxNum + 1", "\x80\x80\x80\x80\x08", 0},
		{"above MaxNum", "\xff\xff\xff\xff\x0f", 0},
		{"2 to the 32nd, and 1", "\x81\x80\x80\x80\x10", 0},
		{"all 35 bits", "\xff\xff\xff\xff\x7f", 0},
	}
	for _, c := range cases {
		if n, next := impl.GetNum([]byte(c.b), c.at); n != 0 || next != -1 {
			t.Errorf("%s: GetNum(%q, %d) = %d, %d", c.why, c.b, c.at, n, next)
		}
		if text, next := impl.GetText([]byte(c.b), c.at); len(text) != 0 || next != -1 {
			t.Errorf("%s: GetText(%q, %d) = %q, %d", c.why, c.b, c.at, text, next)
		}
	}
}

// numByRule reads a number straight by the chapter's reasons, one by one.
func numByRule(b []byte, at int) (int, int) {
	if at < 0 || at > len(b) {
		return 0, -1
	}
	size := 1 + slices.IndexFunc(b[at:], func(c byte) bool { return c < 128 })
	last := at + size - 1
	if size == 0 || size > 5 || size > 1 && b[last] == 0 {
		return 0, -1
	}
	n := 0
	for i := last; i >= at; i-- {
		n = n*128 + int(b[i])%128
	}
	if n > impl.MaxNum {
		return 0, -1
	}
	return n, last + 1
}

// eachBytes calls for all rows of at most size bytes that are made of these alone.
func eachBytes(of []byte, size int, call func([]byte)) {
	var grow func([]byte)
	grow = func(b []byte) {
		call(bytes.Clone(b))
		if len(b) < size {
			for _, c := range of {
				grow(append(b, c))
			}
		}
	}
	grow(nil)
}

func TestReadNumsAreJustTheirBytes(t *testing.T) {
	all := make([]byte, 256)
	for i := range all {
		all[i] = byte(i)
	}
	check := func(b []byte) {
		for at := -1; at <= len(b)+1; at++ {
			n, next := impl.GetNum(b, at)
			if m, want := numByRule(b, at); n != m || next != want {
				t.Fatalf("GetNum(%q, %d) = %d, %d, not %d, %d", b, at, n, next, m, want)
			}
			if next >= 0 && !bytes.Equal(impl.PutNum(nil, n), b[at:next]) {
				t.Fatalf("GetNum(%q, %d) = %d, whose bytes are %q", b, at, n, impl.PutNum(nil, n))
			}
		}
	}
	eachBytes(all, 2, check)
	eachBytes([]byte{0, 1, 7, 8, 127, 128, 255}, 6, check)
}

func TestReadTextsAreJustTheirBytes(t *testing.T) {
	check := func(b []byte) {
		for at := -1; at <= len(b)+1; at++ {
			text, next := impl.GetText(b, at)
			size, from := numByRule(b, at)
			there := from >= 0 && size <= impl.MaxText && from+size <= len(b)
			if there != (next >= 0) || !there && (next != -1 || len(text) != 0) {
				t.Fatalf("GetText(%q, %d) = %q, %d", b, at, text, next)
			}
			if there && (next != from+size || !bytes.Equal(impl.PutText(nil, text), b[at:next])) {
				t.Fatalf("GetText(%q, %d) = %q, %d", b, at, text, next)
			}
		}
	}
	eachBytes([]byte{0, 1, 2, 4, 20, 128, 255}, 5, check)
	for size := range 30 {
		for room := range 30 {
			check(append([]byte{byte(size)}, textOf(room)...))
		}
	}
}

func TestTextsArePutAndGot(t *testing.T) {
	for size := range impl.MaxText + 1 {
		text := textOf(size)
		for _, ahead := range []string{"", "\x00", "\x80\xff"} {
			put := impl.PutText([]byte(ahead), text)
			if string(put) != ahead+string([]byte{byte(size)})+string(text) {
				t.Fatalf("PutText(%q, %q) = %q", ahead, text, put)
			}
			for _, behind := range []string{"", "\x00", "more"} {
				got, next := impl.GetText([]byte(string(put)+behind), len(ahead))
				if !bytes.Equal(got, text) || next != len(put) {
					t.Fatalf("GetText(%q + %q, %d) = %q, %d", put, behind, len(ahead), got, next)
				}
			}
		}
	}
}

func TestTextsTooLong(t *testing.T) {
	for _, size := range []int{impl.MaxText + 1, impl.MaxText + 2, 127, 128, 300, 20000} {
		for _, ahead := range []string{"", "\x03", "abc"} {
			if got := impl.PutText([]byte(ahead), textOf(size)); string(got) != ahead {
				t.Errorf("PutText(%q, %d bytes) = %q", ahead, size, got)
			}
		}
		b := append(impl.PutNum(nil, size), textOf(size)...)
		if text, next := impl.GetText(b, 0); len(text) != 0 || next != -1 {
			t.Errorf("GetText of %d bytes = %q, %d", size, text, next)
		}
	}
}

func TestTextsNotAllThere(t *testing.T) {
	for size := 1; size <= impl.MaxText; size++ {
		b := impl.PutText([]byte("x"), textOf(size))
		for cut := 1; cut < len(b); cut++ {
			if text, next := impl.GetText(b[:cut], 1); len(text) != 0 || next != -1 {
				t.Fatalf("GetText(%q, 1) = %q, %d", b[:cut], text, next)
			}
		}
	}
	huge := impl.PutNum(nil, impl.MaxNum)
	if text, next := impl.GetText(huge, 0); len(text) != 0 || next != -1 {
		t.Fatal(text, next)
	}
}

func TestPrefixesAndCommon(t *testing.T) {
	cases := []struct {
		a, b   string
		begins bool
		common int
	}{
		{"", "", true, 0},
		{"abc", "", true, 0},
		{"", "abc", false, 0},
		{"abc", "abc", true, 3},
		{"abc", "ab", true, 2},
		{"ab", "abc", false, 2},
		{"abc", "abd", false, 2},
		{"abc", "bbc", false, 0},
		{"abcd", "abxd", false, 2},
		{"xab", "ab", false, 0},
		{"\x00\x00", "\x00", true, 1},
		{"\x80\xff", "\x80\xfe", false, 1},
	}
	for _, c := range cases {
		if got := impl.HasPrefix([]byte(c.a), []byte(c.b)); got != c.begins {
			t.Errorf("HasPrefix(%q, %q) = %v", c.a, c.b, got)
		}
		if got := impl.Common([]byte(c.a), []byte(c.b)); got != c.common {
			t.Errorf("Common(%q, %q) = %d", c.a, c.b, got)
		}
		if got := impl.Common([]byte(c.b), []byte(c.a)); got != c.common {
			t.Errorf("Common(%q, %q) = %d", c.b, c.a, got)
		}
	}
}

func TestNilIsEmpty(t *testing.T) {
	none := []byte{}
	for _, n := range []int{-1, 0, 300, impl.MaxNum, impl.MaxNum + 1} {
		if !bytes.Equal(impl.PutNum(nil, n), impl.PutNum(none, n)) {
			t.Error(n)
		}
	}
	for _, b := range [][]byte{nil, none} {
		for _, x := range [][]byte{nil, none} {
			if got := impl.PutText(b, x); string(got) != "\x00" {
				t.Errorf("%q", got)
			}
			if !impl.HasPrefix(b, x) || impl.Common(b, x) != 0 {
				t.Error("prefixes")
			}
		}
		if impl.HasPrefix(b, []byte("a")) || !impl.HasPrefix([]byte("a"), b) {
			t.Error("prefixes")
		}
		for _, at := range []int{math.MinInt, -1, 0, 1, math.MaxInt} {
			n, next := impl.GetNum(b, at)
			text, behind := impl.GetText(b, at)
			if n != 0 || next != -1 || len(text) != 0 || behind != -1 {
				t.Error(at, n, next, text, behind)
			}
		}
	}
}

// roomy gives b with marked room behind it, and all of that memory.
func roomy(b string) ([]byte, []byte) {
	all := append([]byte(b), bytes.Repeat([]byte{mark}, 40)...)
	return all[:len(b)], all
}

// apart fails where an answer, or the room behind it, shares memory with an argument.
func apart(t *testing.T, what string, answer []byte, memory []byte) {
	t.Helper()
	was := bytes.Clone(memory)
	told := bytes.Clone(answer)
	wide := answer[:cap(answer)]
	for i := range wide {
		wide[i]++
	}
	if !bytes.Equal(memory, was) {
		t.Errorf("%s: the answer writes into the argument", what)
	}
	for i := range wide {
		wide[i]--
	}
	for i := range memory {
		memory[i]++
	}
	if !bytes.Equal(answer, told) {
		t.Errorf("%s: the argument writes into the answer", what)
	}
	copy(memory, was)
}

func TestAnswersAreNewMemory(t *testing.T) {
	for _, ahead := range []string{"", "a", "abcdefgh"} {
		for _, n := range []int{-1, 0, 300, impl.MaxNum, impl.MaxNum + 1} {
			b, all := roomy(ahead)
			apart(t, "PutNum", impl.PutNum(b, n), all)
		}
		for _, size := range []int{0, 1, impl.MaxText, impl.MaxText + 1} {
			b, all := roomy(ahead)
			x, text := roomy(string(textOf(size)))
			answer := impl.PutText(b, x)
			apart(t, "PutText, b", answer, all)
			apart(t, "PutText, t", answer, text)
		}
	}
	for _, size := range []int{0, 1, impl.MaxText} {
		b, all := roomy(string(impl.PutText(nil, textOf(size))))
		answer, next := impl.GetText(b, 0)
		if next != 1+size {
			t.Fatal(next)
		}
		apart(t, "GetText", answer, all)
	}
}

func TestArgumentsStay(t *testing.T) {
	for _, ahead := range []string{"", "a", "\x02ab", "\x80", "\x80\x80", "\x14abc"} {
		b, all := roomy(ahead)
		x, other := roomy("ab")
		wasAll, wasOther := bytes.Clone(all), bytes.Clone(other)
		impl.PutNum(b, 5)
		impl.PutNum(b, impl.MaxNum)
		impl.PutNum(b, -1)
		impl.PutText(b, x)
		impl.PutText(x, b)
		impl.PutText(b, textOf(impl.MaxText+1))
		for at := -1; at < 5; at++ {
			impl.GetNum(b, at)
			impl.GetText(b, at)
		}
		impl.HasPrefix(b, x)
		impl.Common(b, x)
		if !bytes.Equal(all, wasAll) || !bytes.Equal(other, wasOther) {
			t.Errorf("%q: an argument, or the room behind it, was written", ahead)
		}
	}
}

func TestTextFromTheSameMemory(t *testing.T) {
	all := []byte("abcdef")
	if got := impl.PutText(all[:2], all[1:5]); string(got) != "ab\x04bcde" || string(all) != "abcdef" {
		t.Errorf("%q %q", got, all)
	}
}

func TestRoomBehindIsNotRead(t *testing.T) {
	num := []byte("\x80\x01")
	if n, next := impl.GetNum(num[:1], 0); n != 0 || next != -1 {
		t.Error(n, next)
	}
	if n, next := impl.GetNum(num[:0], 0); n != 0 || next != -1 {
		t.Error(n, next)
	}
	text := []byte("\x02ab")
	if got, next := impl.GetText(text[:2], 0); len(got) != 0 || next != -1 {
		t.Error(got, next)
	}
	if impl.HasPrefix(text[:1], text) || impl.Common(text[:1], text) != 1 {
		t.Error("prefixes")
	}
}
