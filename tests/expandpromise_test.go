package tests

import (
	"bytes"
	"slices"
	"strings"
	"testing"

	"loop.example/g00407/impl"
)

// inOrder is l with its items in another order.
func inOrder(l []impl.Item, order []int) []impl.Item {
	var out []impl.Item
	for _, i := range order {
		out = append(out, l[i])
	}
	return out
}

// addrsOf are the addresses of all ones, in their order.
func addrsOf(l []impl.Inst) [][]byte {
	var out [][]byte
	for _, one := range l {
		out = append(out, one.Addr)
	}
	return out
}

// TestLocalsInAnyOrder: the same locals in any order have the same values.
func TestLocalsInAnyOrder(t *testing.T) {
	for text, want := range map[string]string{
		"local a = 1 local b = 2 local c = 3":                                                              "{a = 1, b = 2, c = 3}",
		"local a = 1 local b = $a + 1 local c = $b + 1 local d = $c + $a local e = [$d, $b]":               "{a = 1, b = 2, c = 3, d = 4, e = [4, 2]}",
		"local a = {x = $b} local b = {y = $c} local c = 1 local d = $a.x.y == $e local e = $b.y":          "{a = {x = {y = 1}}, b = {y = 1}, c = 1, d = true, e = 1}",
		"local a = 2 res a count $b { x = $a } local b = $a out b = $b":                                    "{a = 2, b = 2}",
		"local a = " + nulls(10) + " local b = [$a, 1, 2] local c = [$a] local d = 5 local e = [$d, null]": "{a = " + nulls(10) + ", b = [" + nulls(10) + ", 1, 2], c = [" + nulls(10) + "], d = 5, e = [5, null]}",
	} {
		l := configFrom(text)
		for order := range orders(len(l)) {
			if got := localsText(inOrder(l, order)); got != want {
				t.Fatal(text, order, got)
			}
		}
	}
}

// TestOneFlawInAnyOrder: where one thing alone is wrong, it is so in any order, and the number goes with the item.
func TestOneFlawInAnyOrder(t *testing.T) {
	for text, want := range map[string]string{
		"local x = web local a = 1 local b = $a local c = $x res web { }":     "uses",
		"local x = $none local a = 1 local b = $a local c = $x":               "lack",
		"local x = $a + true local a = 1 local b = $a + 1 local c = $x":       "value",
		"local x = $x local a = 1 local b = $a + 1 local c = $b + 1":          "ring",
		"local x = " + nestedLists(5) + " local a = 1 local b = $a + 1":       "big",
		"local a = 1 res x { id = $a } local b = $a out c = $b":               "uses",
		"local a = 1 res x { a = none } local b = $a out c = $b":              "lack",
		"local a = 1 res x count $a + 5 { } local b = $a out c = $b res y {}": "many",
		"local a = 1 res x count $a.k { } local b = $a out c = $b res y { }":  "value",
	} {
		l := configFrom(text)
		for order := range orders(len(l)) {
			all := inOrder(l, order)
			at := slices.IndexFunc(all, func(x impl.Item) bool { return string(x.Name) == "x" })
			if _, code, item := impl.InstsOf(all); flawText(code, item) != flawText(slices.Index(flawWords, want), at) {
				t.Fatal(text, order, code, item)
			}
		}
	}
}

// TestDrawnLocalsInAnyOrder: and so have the ones.
func TestDrawnLocalsInAnyOrder(t *testing.T) {
	d, well := draw(31), 0
	for _, l := range drawnLayouts(2500) {
		was, code, _ := impl.LocalsOf(l)
		all, onesCode, _ := impl.InstsOf(l)
		if code != impl.CfWell {
			continue
		}
		well++
		for range 4 {
			other := slices.Clone(l)
			d.shuffle(len(other), func(i, j int) { other[i], other[j] = other[j], other[i] })
			if v, code, item := impl.LocalsOf(other); code != impl.CfWell || item != 0 || !alike(v, was) {
				t.Fatalf("%s and %s: %s, %d", impl.ConfigText(l), impl.ConfigText(other), impl.ValText(v), code)
			}
			more, code, _ := impl.InstsOf(other)
			if (code == impl.CfWell) != (onesCode == impl.CfWell) || !alike(sortedOnes(more, other), sortedOnes(all, l)) {
				t.Fatalf("%s and %s", impl.ConfigText(l), impl.ConfigText(other))
			}
		}
	}
	if well < 1500 {
		t.Error(well, "the draws tell nothing")
	}
}

// sortedOnes are texts of all ones, with their items' names for numbers, in order.
func sortedOnes(l []impl.Inst, of []impl.Item) []string {
	var out []string
	for _, one := range l {
		name := string(of[one.Item].Name)
		one.Item = 0
		out = append(out, oneText(one)+" "+name)
	}
	slices.Sort(out)
	return out
}

// TestOnesHaveAddresses of their own, with their resource's name.
func TestOnesHaveAddresses(t *testing.T) {
	ones := 0
	for _, l := range drawnLayouts(2500) {
		all, _, _ := impl.InstsOf(l)
		seen := map[string]int{}
		for i, one := range all {
			x := l[one.Item]
			if x.Kind != impl.ItRes || !impl.AddrOk(one.Addr) || !bytes.Equal(impl.AddrName(one.Addr), x.Name) {
				t.Fatalf("%s: %s of %d", impl.ConfigText(l), one.Addr, one.Item)
			}
			if i > 0 && one.Item < all[i-1].Item {
				t.Fatalf("%s: %s stands behind %s", impl.ConfigText(l), one.Addr, all[i-1].Addr)
			}
			seen[string(one.Addr)]++
			ones++
		}
		if len(seen) != len(all) || len(all) > impl.MaxEntries {
			t.Fatalf("%s: %s", impl.ConfigText(l), texts(addrsOf(all)))
		}
	}
	if ones < 5000 {
		t.Error(ones, "the draws tell nothing")
	}
}

// TestOnesNeedWhatTheirItemUses: ones of that, all of them, and no others.
func TestOnesNeedWhatTheirItemUses(t *testing.T) {
	needed := 0
	for _, l := range drawnLayouts(1500) {
		all, _, _ := impl.InstsOf(l)
		for _, one := range all {
			needs := impl.InstNeeds(l, one.Addr)
			uses := strings.Fields(texts(impl.ItemUses(l[one.Item])))
			for i, addr := range needs {
				if i > 0 && bytes.Compare(needs[i-1], addr) >= 0 {
					t.Fatalf("%s: %s needs %s", impl.ConfigText(l), one.Addr, texts(needs))
				}
			}
			for _, other := range all {
				is := slices.ContainsFunc(needs, func(addr []byte) bool { return bytes.Equal(addr, other.Addr) })
				if is != slices.Contains(uses, string(impl.AddrName(other.Addr))) {
					t.Fatalf("%s: %s needs %s", impl.ConfigText(l), one.Addr, texts(needs))
				}
				if is {
					needed++
				}
			}
			for _, addr := range needs {
				if !slices.ContainsFunc(all, func(other impl.Inst) bool { return bytes.Equal(addr, other.Addr) }) {
					t.Fatalf("%s: %s needs %s, which is none", impl.ConfigText(l), one.Addr, addr)
				}
			}
		}
	}
	if needed < 2000 {
		t.Error(needed, "the draws tell nothing")
	}
}

// TestOnesHaveWhatManyTells: by number, by key or neither.
func TestOnesHaveWhatManyTells(t *testing.T) {
	null := impl.Value{}
	for _, l := range drawnLayouts(1500) {
		all, _, _ := impl.InstsOf(l)
		places := map[int]int{}
		for _, one := range all {
			x, at := l[one.Item], places[one.Item]
			places[one.Item]++
			var want []byte
			switch x.Many {
			case impl.MnOne:
				want = x.Name
				if at > 0 || !alike(one, impl.Inst{Addr: want, Item: one.Item}) {
					t.Fatalf("%s: %s", impl.ConfigText(l), oneText(one))
				}
			case impl.MnCount:
				want = impl.AddrItem(x.Name, at)
				if !alike(one.Index, vInt(at)) || !alike(one.Key, null) || !alike(one.Val, null) {
					t.Fatalf("%s: %s", impl.ConfigText(l), oneText(one))
				}
			case impl.MnEach:
				want = impl.AddrKey(x.Name, one.Key.S)
				if !alike(one.Index, null) || one.Key.Kind != impl.VkText || !impl.ValKnown(one.Val) {
					t.Fatalf("%s: %s", impl.ConfigText(l), oneText(one))
				}
			}
			if !bytes.Equal(one.Addr, want) {
				t.Fatalf("%s: %s", impl.ConfigText(l), oneText(one))
			}
		}
	}
}
