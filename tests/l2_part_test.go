package tests

import (
	"fmt"
	"math"
	"slices"
	"strings"
	"testing"

	"loop.example/cribble/impl"
)

// wantPart asks for the tree of this text, and that it can be done; of the empty text for nothing, and that it can not.
func wantPart(t *testing.T, what string, text string, got impl.Val, ok bool) {
	t.Helper()
	if text == "" {
		if ok || !equal(got, impl.Val{}) {
			t.Errorf("%s is %v, %v, and can not be done", what, got, ok)
		}
		return
	}
	if !ok || plain(got) != text || !impl.ValOk(got) {
		t.Errorf("%s is %s (%v), %v, not %s", what, plain(got), got, ok, text)
	}
}

// wantModel is wantPart of a tree that was put together without the program: it can be done, if it is within all bounds.
func wantModel(t *testing.T, what string, want impl.Val, got impl.Val, ok bool) {
	t.Helper()
	text := ""
	if fits(want) {
		text = plain(want)
	}
	wantPart(t, what, text, got, ok)
}

// leaves are trees of the kinds that have no parts.
var leaves = []string{"null", "false", "true", "5", "'a'"}

func TestPartGet(t *testing.T) {
	long := strings.Repeat("k", impl.ValLong)
	for _, c := range [][3]string{
		{"{a:1,c:[5,6]}", "a", "1"}, {"{a:1,c:[5,6]}", "c", "[5,6]"}, {"{a:1,c:[5,6]}", "b", "null"}, {"{a:1,c:[5,6]}", "", "null"},
		{"{:7,a:1}", "", "7"}, {"{a:null}", "a", "null"}, {"{a:{a:2}}", "a", "{a:2}"}, {"{}", "a", "null"}, {"{aa:1,b:2}", "a", "null"},
		{"{" + long + ":1}", long, "1"}, {"{" + long + ":1}", long + "k", ""}, {"{a:1}", "A", ""}, {"{a:1}", "a b", ""}, {"{a:1}", "0", ""}, {"{a:1}", "\xff", ""}, {"{a:1}", "\x00", ""},
		{"null", "a", "null"}, {"null", "", "null"}, {"null", "A", ""}, {"null", long + "k", ""},
		{"false", "a", ""}, {"true", "a", ""}, {"5", "a", ""}, {"'a'", "a", ""}, {"[]", "a", ""}, {"[{a:1}]", "a", ""},
	} {
		got, ok := impl.PartGet(read(t, c[0]), c[1])
		wantPart(t, "get "+c[0]+" "+c[1], c[2], got, ok)
	}
}

func TestPartAt(t *testing.T) {
	for _, c := range []struct {
		tree string
		at   int
		want string
	}{
		{"[5,[6],7]", 0, "5"}, {"[5,[6],7]", 1, "[6]"}, {"[5,[6],7]", 2, "7"}, {"[5,[6],7]", 3, "null"}, {"[5,[6],7]", math.MaxInt, "null"},
		{"[5,[6],7]", -1, "7"}, {"[5,[6],7]", -2, "[6]"}, {"[5,[6],7]", -3, "5"}, {"[5,[6],7]", -4, "null"}, {"[5,[6],7]", math.MinInt, "null"},
		{"[]", 0, "null"}, {"[]", -1, "null"}, {"[null]", 0, "null"}, {"[[1,2]]", -1, "[1,2]"},
		{"null", 0, "null"}, {"null", -1, "null"}, {"null", math.MaxInt, "null"}, {"null", math.MinInt, "null"},
		{"false", 0, ""}, {"true", 0, ""}, {"5", 0, ""}, {"'a'", 0, ""}, {"{}", 0, ""}, {"{a:1}", 0, ""}, {"{a:1}", -1, ""},
	} {
		got, ok := impl.PartAt(read(t, c.tree), c.at)
		wantPart(t, fmt.Sprint("at ", c.tree, " ", c.at), c.want, got, ok)
	}
	last, most := impl.ValSize-2, wide(impl.ValSize-1)
	for at, want := range map[int]string{0: "0", last: fmt.Sprint(last), last + 1: "null", impl.ValSize: "null", -1: fmt.Sprint(last), -last - 1: "0", -last - 2: "null"} {
		got, ok := impl.PartAt(most, at)
		wantPart(t, fmt.Sprint("at ", at), want, got, ok)
	}
}

func TestPartEach(t *testing.T) {
	for _, text := range append([]string{"[]", "{}", "[1]", "[1,[2,3],{a:4}]", "{a:1,b:[2]}", "{:null}"}, leaves...) {
		v := read(t, text)
		list, ok := impl.PartEach(v)
		if ok != (v.Kind >= impl.ValRow) || !equal(row(list...), row(v.List...)) {
			t.Errorf("each of %s: %v, %v", text, list, ok)
		}
	}
}

func TestPartLen(t *testing.T) {
	for text, want := range map[string]string{
		"null": "0", "false": "", "true": "", "0": "0", "7": "7", "-7": "7", "1000000": "1000000", "-1000000": "1000000",
		"''": "0", "'abc'": "3", "'abcdefghijkl'": "12", "[]": "0", "[1]": "1", "[[1,2],3]": "2", "{}": "0", "{a:[1,2],b:null}": "2",
	} {
		got, ok := impl.PartLen(read(t, text))
		wantPart(t, "len "+text, want, got, ok)
	}
}

func TestPartKeys(t *testing.T) {
	for text, want := range map[string]string{
		"[]": "[]", "[7]": "[0]", "['a',[2],null]": "[0,1,2]", "{}": "[]", "{:1}": "['']", "{a:1,c:[5,6]}": "['a','c']", "{a:{z:1},aa:2,b:3}": "['a','aa','b']",
		"null": "", "false": "", "true": "", "5": "", "'a'": "",
	} {
		got, ok := impl.PartKeys(read(t, text))
		wantPart(t, "keys "+text, want, got, ok)
	}
	// A tree that is ok has a part more than it has keys, as their row has: the widest row just fits, and what is wider is not ok itself.
	for many := impl.ValSize - 2; many <= impl.ValSize; many++ {
		places := wide(many)
		byRow, okRow := impl.PartKeys(places)
		wantModel(t, "places", places, byRow, okRow)
		keys, list := wideKeys(many), row()
		for _, key := range keys {
			list.List = append(list.List, str(key))
		}
		byMap, okMap := impl.PartKeys(keyed(keys, wide(many).List...))
		wantModel(t, "keys", list, byMap, okMap)
	}
}

// wideKeys is so many keys, in order.
func wideKeys(many int) []string {
	var keys []string
	for i := range many {
		keys = append(keys, string(rune('a'+i/26))+string(rune('a'+i%26)))
	}
	return keys
}

func TestPartAdd(t *testing.T) {
	for _, c := range [][3]string{
		{"2", "3", "5"}, {"2", "-3", "-1"}, {"-2", "2", "0"}, {"0", "0", "0"},
		{"999999", "1", "1000000"}, {"1000000", "1", ""}, {"1000000", "1000000", ""}, {"1000000", "0", "1000000"}, {"500000", "500001", ""},
		{"-999999", "-1", "-1000000"}, {"-1000000", "-1", ""}, {"-1000000", "-1000000", ""}, {"1000000", "-1000000", "0"},
		{"'a'", "'b'", "'ab'"}, {"'b'", "'a'", "'ba'"}, {"''", "'a'", "'a'"}, {"'a'", "''", "'a'"}, {"''", "''", "''"},
		{"'abcdef'", "'ghijkl'", "'abcdefghijkl'"}, {"'abcdef'", "'ghijklm'", ""}, {"'abcdefghijkl'", "''", "'abcdefghijkl'"}, {"''", "'abcdefghijkl'", "'abcdefghijkl'"}, {"'a'", "'abcdefghijkl'", ""},
		{"[1]", "[2]", "[1,2]"}, {"[]", "[2]", "[2]"}, {"[1]", "[]", "[1]"}, {"[]", "[]", "[]"}, {"[1,[2]]", "[[2],1]", "[1,[2],[2],1]"}, {"[null]", "[null]", "[null,null]"},
		{"{a:1,b:1}", "{b:2,c:3}", "{a:1,b:2,c:3}"}, {"{b:2,c:3}", "{a:1,b:1}", "{a:1,b:1,c:3}"}, {"{}", "{a:1}", "{a:1}"}, {"{a:1}", "{}", "{a:1}"}, {"{}", "{}", "{}"},
		{"{b:1}", "{a:2}", "{a:2,b:1}"}, {"{a:{x:1}}", "{a:{y:2}}", "{a:{y:2}}"}, {"{a:1}", "{a:null}", "{a:null}"}, {"{a:null}", "{a:1}", "{a:1}"}, {"{:1}", "{:2}", "{:2}"},
		{"false", "false", ""}, {"true", "true", ""}, {"false", "true", ""}, {"true", "false", ""},
	} {
		got, ok := impl.PartAdd(read(t, c[0]), read(t, c[1]))
		wantPart(t, "add "+c[0]+" "+c[1], c[2], got, ok)
	}
}

func TestPartAddOfKinds(t *testing.T) {
	kinds := []string{"null", "false", "true", "5", "'a'", "[1]", "{a:1}"}
	for i, a := range kinds {
		for j, b := range kinds {
			want := ""
			switch {
			case i == 0:
				want = b
			case j == 0:
				want = a
			case i == j && i > impl.ValYes:
				continue
			}
			got, ok := impl.PartAdd(read(t, a), read(t, b))
			wantPart(t, "add "+a+" "+b, want, got, ok)
		}
	}
}

func TestPartAddMeetsBounds(t *testing.T) {
	half := (impl.ValSize - 1) / 2
	for _, c := range [][2]int{{half, impl.ValSize - 1 - half}, {half, impl.ValSize - half}, {0, impl.ValSize - 1}, {1, impl.ValSize - 1}, {impl.ValSize - 1, impl.ValSize - 1}} {
		a, b := wide(c[0]), wide(c[1])
		got, ok := impl.PartAdd(a, b)
		wantModel(t, "rows", row(append(a.List, b.List...)...), got, ok)
		// The parts of parts count as well.
		got, ok = impl.PartAdd(row(wide(max(c[0]-1, 0))), b)
		wantModel(t, "rows in rows", row(append([]impl.Val{wide(max(c[0]-1, 0))}, b.List...)...), got, ok)
		keys := wideKeys(2 * impl.ValSize)
		first, second := keyed(keys[:c[0]], a.List...), keyed(keys[c[0]:c[0]+c[1]], b.List...)
		got, ok = impl.PartAdd(first, second)
		wantModel(t, "maps", keyed(keys[:c[0]+c[1]], append(a.List, b.List...)...), got, ok)
		got, ok = impl.PartAdd(second, first)
		wantModel(t, "maps turned round", keyed(keys[:c[0]+c[1]], append(a.List, b.List...)...), got, ok)
	}
	// What the second one's tree takes the place of counts no more.
	great, small := keyed([]string{"a"}, wide(impl.ValSize-3)), keyed([]string{"a", "b"}, num(1), wide(impl.ValSize-4))
	got, ok := impl.PartAdd(great, small)
	wantModel(t, "a great tree replaced", small, got, ok)
	got, ok = impl.PartAdd(small, great)
	wantModel(t, "a great tree put", keyed([]string{"a", "b"}, great.List[0], small.List[1]), got, ok)
	deepest := rows(impl.ValDeep-1, num(1))
	got, ok = impl.PartAdd(deepest, deepest)
	wantModel(t, "deep rows", row(deepest.List[0], deepest.List[0]), got, ok)
	got, ok = impl.PartAdd(keyed([]string{"a"}, deepest.List[0]), keyed([]string{"b"}, deepest.List[0]))
	wantModel(t, "deep maps", keyed([]string{"a", "b"}, deepest.List[0], deepest.List[0]), got, ok)
}

func TestPartPut(t *testing.T) {
	long := strings.Repeat("k", impl.ValLong)
	for _, c := range [][4]string{
		{"{a:1,c:[5,6]}", "b", "true", "{a:1,b:true,c:[5,6]}"}, {"{a:1,c:[5,6]}", "c", "9", "{a:1,c:9}"}, {"{a:1,c:[5,6]}", "a", "{a:1}", "{a:{a:1},c:[5,6]}"},
		{"{a:1}", "", "2", "{:2,a:1}"}, {"{a:1}", "aa", "2", "{a:1,aa:2}"}, {"{b:1}", "aa", "2", "{aa:2,b:1}"}, {"{a:1}", "z", "null", "{a:1,z:null}"}, {"{a:1}", "a", "null", "{a:null}"},
		{"{}", "a", "[]", "{a:[]}"}, {"{}", long, "1", "{" + long + ":1}"}, {"{}", long + "k", "1", ""}, {"{}", "A", "1", ""}, {"{}", "a:", "1", ""}, {"{a:1}", "\xff", "1", ""},
		{"null", "a", "1", "{a:1}"}, {"null", "", "null", "{:null}"}, {"null", "A", "1", ""}, {"null", long + "k", "1", ""},
		{"false", "a", "1", ""}, {"true", "a", "1", ""}, {"5", "a", "1", ""}, {"'a'", "a", "1", ""}, {"[]", "a", "1", ""}, {"[{}]", "a", "1", ""},
	} {
		got, ok := impl.PartPut(read(t, c[0]), c[1], read(t, c[2]))
		wantPart(t, "put "+c[0]+" "+c[1]+" "+c[2], c[3], got, ok)
	}
}

func TestPartSet(t *testing.T) {
	for _, c := range []struct {
		tree string
		at   int
		x    string
		want string
	}{
		{"[1,2,3]", 0, "9", "[9,2,3]"}, {"[1,2,3]", 2, "[9]", "[1,2,[9]]"}, {"[1,2,3]", 3, "9", "[1,2,3,9]"}, {"[1,2,3]", 5, "9", "[1,2,3,null,null,9]"}, {"[1,2,3]", 4, "null", "[1,2,3,null,null]"},
		{"[1,2,3]", -1, "9", "[1,2,9]"}, {"[1,2,3]", -3, "9", "[9,2,3]"}, {"[1,2,3]", -4, "9", ""}, {"[1,2,3]", math.MinInt, "9", ""}, {"[1,2,3]", math.MaxInt, "9", ""},
		{"[1,2,3]", 1, "null", "[1,null,3]"}, {"[]", 0, "9", "[9]"}, {"[]", 1, "9", "[null,9]"}, {"[]", -1, "9", ""},
		{"null", 0, "9", "[9]"}, {"null", 0, "null", "[null]"}, {"null", 2, "9", "[null,null,9]"}, {"null", -1, "9", ""}, {"null", math.MinInt, "9", ""}, {"null", math.MaxInt, "9", ""},
		{"false", 0, "9", ""}, {"true", 0, "9", ""}, {"5", 0, "9", ""}, {"'a'", 0, "9", ""}, {"{}", 0, "9", ""}, {"{a:1}", 0, "9", ""},
	} {
		got, ok := impl.PartSet(read(t, c.tree), c.at, read(t, c.x))
		wantPart(t, fmt.Sprint("set ", c.tree, " ", c.at, " ", c.x), c.want, got, ok)
	}
}

func TestPartSetAtTheFarthestPlaces(t *testing.T) {
	for _, from := range []impl.Val{{}, row(), wide(2), wide(impl.ValSize - 2), wide(impl.ValSize - 1)} {
		for at := impl.ValSize - 4; at <= impl.ValSize+1; at++ {
			want := row(slices.Clone(from.List)...)
			for len(want.List) <= at {
				want.List = append(want.List, impl.Val{})
			}
			want.List[at] = str("x")
			got, ok := impl.PartSet(from, at, str("x"))
			wantModel(t, fmt.Sprint("set ", plain(from), " ", at), want, got, ok)
			if ok != (at <= impl.ValSize-2) {
				t.Errorf("place %d: %v", at, ok)
			}
		}
	}
}

func TestPartOfWhatBecomesTooGreat(t *testing.T) {
	for around := impl.ValDeep - 3; around < impl.ValDeep; around++ {
		x := rows(around, num(1))
		got, ok := impl.PartPut(keyed([]string{"a"}, num(1)), "b", x)
		wantModel(t, "put a deep tree", keyed([]string{"a", "b"}, num(1), x), got, ok)
		got, ok = impl.PartSet(row(num(1)), 0, x)
		wantModel(t, "set a deep tree", row(x), got, ok)
		got, ok = impl.PartPut(impl.Val{}, "", x)
		wantModel(t, "put a deep tree into nothing", keyed([]string{""}, x), got, ok)
		got, ok = impl.PartSet(impl.Val{}, 0, x)
		wantModel(t, "set a deep tree into nothing", row(x), got, ok)
	}
	for size := impl.ValSize - 6; size < impl.ValSize; size++ {
		x, two := wide(size), keyed([]string{"a", "b"}, num(1), wide(1))
		got, ok := impl.PartPut(two, "c", x)
		wantModel(t, "put a great tree", keyed([]string{"a", "b", "c"}, two.List[0], two.List[1], x), got, ok)
		got, ok = impl.PartPut(two, "b", x)
		wantModel(t, "put a great tree in the place of one", keyed([]string{"a", "b"}, two.List[0], x), got, ok)
		got, ok = impl.PartSet(row(two.List...), 2, x)
		wantModel(t, "set a great tree", row(two.List[0], two.List[1], x), got, ok)
		got, ok = impl.PartSet(row(two.List...), -1, x)
		wantModel(t, "set a great tree in the place of one", row(two.List[0], x), got, ok)
	}
	got, ok := impl.PartPut(keyed([]string{"a"}, wide(impl.ValSize-2)), "a", num(1))
	wantPart(t, "put in the place of a great tree", "{a:1}", got, ok)
}

// putModel is a map with a tree at a key, without the program.
func putModel(v impl.Val, key string, x impl.Val) impl.Val {
	at, had := slices.BinarySearch(v.Keys, key)
	keys, list := slices.Clone(v.Keys), slices.Clone(v.List)
	if had {
		list[at] = x
	} else {
		keys, list = slices.Insert(keys, at, key), slices.Insert(list, at, x)
	}
	return keyed(keys, list...)
}

// getModel is the tree at a key, without the program.
func getModel(v impl.Val, key string) impl.Val {
	if at := slices.Index(v.Keys, key); at >= 0 {
		return v.List[at]
	}
	return impl.Val{}
}

func TestPartPutIsGotAndNothingElseIsTurned(t *testing.T) {
	d := dice(21)
	done := 0
	for _, v := range d.trees(6000) {
		key, x := d.text(), d.trees(1)[0]
		got, ok := impl.PartPut(v, key, x)
		if v.Kind != impl.ValMap && v.Kind != impl.ValNone {
			wantPart(t, "put "+plain(v), "", got, ok)
			continue
		}
		wantModel(t, "put "+plain(v), putModel(v, key, x), got, ok)
		if !ok {
			continue
		}
		done++
		for _, other := range append([]string{key, "", "a", "abc", "zz"}, v.Keys...) {
			want := getModel(v, other)
			if other == key {
				want = x
			}
			part, ok := impl.PartGet(got, other)
			wantPart(t, "get "+plain(got)+" "+other, plain(want), part, ok)
		}
	}
	if done < 500 {
		t.Fatalf("only %d were put", done)
	}
}

func TestPartSetIsGotAndNothingElseIsTurned(t *testing.T) {
	d := dice(22)
	done := 0
	for _, v := range d.trees(6000) {
		at, x := d.below(12)-5, d.trees(1)[0]
		got, ok := impl.PartSet(v, at, x)
		place := at
		if at < 0 {
			place += len(v.List)
		}
		if v.Kind != impl.ValRow && v.Kind != impl.ValNone || place < 0 {
			wantPart(t, fmt.Sprint("set ", plain(v), " ", at), "", got, ok)
			continue
		}
		want := row(slices.Clone(v.List)...)
		for len(want.List) <= place {
			want.List = append(want.List, impl.Val{})
		}
		want.List[place] = x
		wantModel(t, fmt.Sprint("set ", plain(v), " ", at), want, got, ok)
		if !ok {
			continue
		}
		done++
		for i, part := range want.List {
			fromStart, ok := impl.PartAt(got, i)
			wantPart(t, "at "+plain(got), plain(part), fromStart, ok)
			fromEnd, ok := impl.PartAt(got, i-len(want.List))
			wantPart(t, "from the end at "+plain(got), plain(part), fromEnd, ok)
		}
	}
	if done < 500 {
		t.Fatalf("only %d were set", done)
	}
}

// addModel is two trees together, without the program, and whether they can be.
func addModel(a, b impl.Val) (impl.Val, bool) {
	switch {
	case a.Kind == impl.ValNone:
		return b, true
	case b.Kind == impl.ValNone:
		return a, true
	case a.Kind != b.Kind || a.Kind < impl.ValNum:
		return impl.Val{}, false
	case a.Kind == impl.ValNum:
		return num(a.N + b.N), true
	case a.Kind == impl.ValStr:
		return str(a.S + b.S), true
	case a.Kind == impl.ValRow:
		return row(slices.Concat(a.List, b.List)...), true
	}
	for i, key := range b.Keys {
		a = putModel(a, key, b.List[i])
	}
	return a, true
}

func TestPartAddOfMany(t *testing.T) {
	d := dice(23)
	list := d.trees(400)
	for _, a := range list {
		for _, b := range list {
			want, can := addModel(a, b)
			got, ok := impl.PartAdd(a, b)
			if !can {
				want = num(impl.ValMost + 1)
			}
			wantModel(t, "add", want, got, ok)
		}
	}
}

// partAnswer is what one of the functions tells of parts.
type partAnswer struct {
	name string
	list []impl.Val
	ok   bool
}

// allParts asks all functions of parts.
func allParts(v impl.Val, x impl.Val, key string, at int) []partAnswer {
	var all []partAnswer
	one := func(name string) func(impl.Val, bool) {
		return func(v impl.Val, ok bool) { all = append(all, partAnswer{name, []impl.Val{v}, ok}) }
	}
	one("get")(impl.PartGet(v, key))
	one("at")(impl.PartAt(v, at))
	one("len")(impl.PartLen(v))
	one("keys")(impl.PartKeys(v))
	one("add")(impl.PartAdd(v, x))
	one("put")(impl.PartPut(v, key, x))
	one("set")(impl.PartSet(v, at, x))
	list, ok := impl.PartEach(v)
	return append(all, partAnswer{"each", list, ok})
}

// wantNone asks that none of these can be done, and that they tell nothing.
func wantNone(t *testing.T, what string, all []partAnswer) {
	t.Helper()
	for _, a := range all {
		for _, v := range a.list {
			wantPart(t, what+": "+a.name, "", v, a.ok)
		}
		if a.ok || a.name == "each" && len(a.list) > 0 {
			t.Errorf("%s: %s can be done", what, a.name)
		}
	}
}

func TestPartOfWrongTrees(t *testing.T) {
	wrong := wrongTrees()
	wrong["a great number"] = num(impl.ValMost + 1)
	wrong["a long text"] = str("abcdefghijklm")
	wrong["a wide row"] = wide(impl.ValSize)
	wrong["a deep tree"] = rows(impl.ValDeep, num(1))
	wrong["a tree past all bounds"] = rows(100000, num(1))
	wrong["a row that holds itself"] = round(2)
	for what, v := range wrong {
		wantNone(t, what, allParts(v, num(1), "a", 0))
		wantNone(t, what, allParts(v, impl.Val{}, "a", 0))
		wantNone(t, what+" in a row", allParts(row(num(1), v), row(), "a", 0))
		wantNone(t, what+" in a map", allParts(keyed([]string{"a", "b"}, num(1), v), keyed(nil), "a", 0))
		for _, ok := range []string{"null", "1", "''", "[]", "{}", "{a:1}"} {
			got, can := impl.PartAdd(read(t, ok), v)
			wantPart(t, "add "+what, "", got, can)
			got, can = impl.PartPut(read(t, ok), "a", v)
			wantPart(t, "put "+what, "", got, can)
			got, can = impl.PartSet(read(t, ok), 0, v)
			wantPart(t, "set "+what, "", got, can)
		}
	}
}

func TestPartWritesIntoNoArgument(t *testing.T) {
	d := dice(24)
	list := append(d.trees(800), keyed([]string{"b", "a"}, num(1), num(2)), wide(impl.ValSize))
	for i, v := range list {
		v, x := roomy(v), roomy(list[(i*7+3)%len(list)])
		beforeV, beforeX := spare(v), spare(x)
		key := "a"
		if len(v.Keys) > 0 {
			key = v.Keys[len(v.Keys)-1]
		}
		for _, at := range []int{0, -1, 1, len(v.List)} {
			for _, a := range allParts(v, x, key, at) {
				// The list of each is a list of the answer as well.
				apart(t, a.name, v, x, row(a.list...))
			}
			for _, a := range allParts(v, v, key, at) {
				apart(t, a.name+" of a tree and itself", v, row(a.list...))
			}
		}
		if !equal(spare(v), beforeV) || !equal(spare(x), beforeX) {
			t.Fatalf("written into %v or %v", beforeV, beforeX)
		}
	}
}

func TestPartKeepsNothing(t *testing.T) {
	d := dice(25)
	list := d.trees(200)
	for i, v := range list {
		x := list[(i*3+1)%len(list)]
		first := allParts(v, x, "a", -1)
		var before []string
		for _, a := range first {
			before = append(before, plain(row(a.list...)))
			for _, part := range a.list {
				lists(part, func(keys []string) { fill(keys, "X") }, func(list []impl.Val) { fill(list, impl.Val{Kind: 99}) })
			}
		}
		for j, a := range allParts(v, x, "a", -1) {
			if got := plain(row(a.list...)); got != before[j] || a.ok != first[j].ok {
				t.Fatalf("%s tells %s, and told %s", a.name, got, before[j])
			}
		}
	}
}

// fill puts one thing at all places of a list.
func fill[T any](list []T, x T) {
	for i := range list {
		list[i] = x
	}
}
