package tests

import (
	"fmt"
	"strings"
	"testing"

	"loop.example/cribble/impl"
)

// same asks the program whether two trees are one, both ways round, and whether their order says so too.
func same(t *testing.T, a, b impl.Val) bool {
	t.Helper()
	got := impl.ValSame(a, b)
	if impl.ValSame(b, a) != got || (impl.ValOrder(a, b) == 0) != got || (impl.ValOrder(b, a) == 0) != got {
		t.Fatalf("same and order of %v and %v", a, b)
	}
	return got
}

// wantTree asks for a tree that is ok, with this text, and read back from it.
func wantTree(t *testing.T, v impl.Val) {
	t.Helper()
	text := plain(v)
	if !impl.ValOk(v) {
		t.Fatalf("not ok: %s", text)
	}
	if got := impl.ValText(v); got != text {
		t.Fatalf("text %s, not %s", got, text)
	}
	if got := impl.ValMany(v); got != many(v) {
		t.Fatalf("%s has %d parts, not %d", text, got, many(v))
	}
	back, ok := impl.ValRead(text)
	if !ok || !equal(back, v) || !same(t, back, v) {
		t.Fatalf("%s is read as %v, %v", text, back, ok)
	}
}

// wantNoTree asks for the answers of a tree that is not ok.
func wantNoTree(t *testing.T, what string, v impl.Val) {
	t.Helper()
	if impl.ValOk(v) {
		t.Errorf("%s: ok", what)
	}
	if got := impl.ValMany(v); got != 0 {
		t.Errorf("%s: %d parts", what, got)
	}
	if got := impl.ValText(v); got != "" {
		t.Errorf("%s: text %s", what, got)
	}
}

// wantNoText asks for nothing to be read.
func wantNoText(t *testing.T, text string) {
	t.Helper()
	if v, ok := impl.ValRead(text); ok || !equal(v, impl.Val{}) {
		t.Errorf("%q is read as %v, %v", text, v, ok)
	}
}

func TestValReadsWhatItWrites(t *testing.T) {
	list := []impl.Val{
		{}, {Kind: impl.ValNo}, {Kind: impl.ValYes}, num(0), num(-5), num(10), str(""), str("az"), row(), keyed(nil),
		row(row(), keyed(nil), str("")), keyed([]string{""}, row()), keyed([]string{"", "a", "aa", "b"}, num(1), num(2), num(3), num(4)),
		keyed([]string{"false", "null", "true"}, impl.Val{}, str("null"), impl.Val{Kind: impl.ValYes}),
	}
	d := dice(1)
	for _, v := range append(list, d.trees(5000)...) {
		wantTree(t, v)
	}
}

func TestValTellsKindsApart(t *testing.T) {
	texts := []string{"null", "false", "true", "0", "''", "[]", "{}"}
	for kind, text := range texts {
		v := read(t, text)
		if !equal(v, impl.Val{Kind: kind}) || impl.ValText(impl.Val{Kind: kind}) != text {
			t.Errorf("%s is %v", text, v)
		}
	}
	want := keyed([]string{"a", "b"}, row(num(-1), str("x")), keyed([]string{""}, impl.Val{Kind: impl.ValNo}))
	if v := read(t, "{a:[-1,'x'],b:{:false}}"); !equal(v, want) {
		t.Errorf("%v", v)
	}
}

// few holds all texts of trees that are made of few letters, by how many bytes they have.
type few map[int][]string

const fewLetters = "[]{},:'a01-"

func (f few) texts(n int) []string {
	if n < 1 {
		return nil
	}
	if list, ok := f[n]; ok {
		return list
	}
	list := fewNumbers(n)
	if n == 1 {
		list = append(list, "0")
	} else {
		list = append(list, "'"+strings.Repeat("a", n-2)+"'")
	}
	for _, inner := range f.inner(n-2, false) {
		list = append(list, "["+inner+"]")
	}
	for _, inner := range f.inner(n-2, true) {
		list = append(list, "{"+inner+"}")
	}
	f[n] = list
	return list
}

// fewNumbers is all numbers of n bytes but 0.
func fewNumbers(n int) []string {
	list := []string{"1"}
	for len(list[0]) < n {
		var longer []string
		for _, s := range list {
			longer = append(longer, s+"0", s+"1")
		}
		list = longer
	}
	for i := 0; n > 1 && i < 1<<(n-2); i++ {
		list = append(list, "-1"+fmt.Sprintf("%0*b", n-2, i)[:n-2])
	}
	return list
}

// inner is all that may stand in a row, or by keys; two keys take more bytes than are asked for here, so that there is one.
func (f few) inner(n int, keys bool) []string {
	if n <= 0 {
		return []string{""}[:n+1]
	}
	var list []string
	for first := 1; first <= n; first++ {
		for _, text := range f.texts(first) {
			switch {
			case keys:
				if n-first-1 >= 0 {
					list = append(list, strings.Repeat("a", n-first-1)+":"+text)
				}
			case first == n:
				list = append(list, text)
			case first < n-1:
				for _, rest := range f.inner(n-first-1, false) {
					list = append(list, text+","+rest)
				}
			}
		}
	}
	return list
}

func TestValReadsJustTheTexts(t *testing.T) {
	f := few{}
	for n := 0; n <= 6; n++ {
		want := map[string]bool{}
		for _, text := range f.texts(n) {
			want[text] = true
		}
		text := make([]byte, n)
		var try func(at int)
		try = func(at int) {
			if at < n {
				for _, c := range []byte(fewLetters) {
					text[at] = c
					try(at + 1)
				}
				return
			}
			v, ok := impl.ValRead(string(text))
			if ok != want[string(text)] {
				t.Fatalf("%q is read: %v", text, ok)
			}
			if ok && plain(v) != string(text) {
				t.Fatalf("%q is read as %s", text, plain(v))
			}
		}
		try(0)
		if n > 0 && len(want) < n {
			t.Fatalf("%d texts of %d bytes", len(want), n)
		}
	}
}

func TestValReadsNoOtherText(t *testing.T) {
	for _, text := range []string{
		"", " ", "nul", "nulll", "Null", "NULL", "nullnull", "null null", "yes", "a", "true1", "1true",
		"00", "01", "-0", "-01", "--1", "-", "+1", "1-", "1-1", "1.0", "1e3", "0x1", "1_0", "1 ", " 1", "1\n", "٣", "１",
		"'", "'a", "a'", "'a''", "'A'", "'a b'", "'1'", "'-'", "'é'", "'\xff'", "'\x00'", "''''", "\"a\"", "'a'b",
		"[", "]", "[1", "1]", "[1]]", "[[1]", "[1,]", "[,1]", "[,]", "[1,,2]", "[1 ]", "[ 1]", "[1, 2]", "[]1", "[][]", "[}", "[1}", "[a:1]", "[1;2]", "[\xff]", "[\x00]", "\x00", "null\x00", "\uFFFD", "1,", "1,2",
		"{", "}", "{a}", "{a:}", "{a:1", "{a:1]", "{a:1,}", "{,}", "{,a:1}", "{a:1,,b:2}", "{a:1 }", "{a :1}", "{a: 1}", "{ }", "{}{}", "{1:1}", "{A:1}", "{-:1}", "{'a':1}", "{a::1}", "{a:b:1}", "{\xff:1}",
		"{b:1,a:2}", "{a:1,a:2}", "{:1,:1}", "{a:1,:1}", "{ab:1,a:1}", "{a:1,c:1,b:1}", "{a:{b:1,a:1}}",
	} {
		wantNoText(t, text)
	}
}

func TestValReadsWhatIsNearATextOnlyAsItself(t *testing.T) {
	d := dice(2)
	for _, v := range d.trees(60) {
		text := impl.ValText(v)
		for at := 0; at <= len(text); at++ {
			near := []string{text[:at]}
			for _, c := range []string{"", " ", ",", ":", "'", "[", "]", "{", "}", "0", "-", "a", "A", "\xff"} {
				near = append(near, text[:at]+c+text[at:], text[:at]+c+text[min(at+1, len(text)):])
			}
			for _, s := range near {
				got, ok := impl.ValRead(s)
				if ok && (plain(got) != s || !impl.ValOk(got)) {
					t.Fatalf("%q is read as %s", s, plain(got))
				}
				if !ok && !equal(got, impl.Val{}) {
					t.Fatalf("%q tells %v", s, got)
				}
			}
		}
	}
}

func TestValOrderOfAll(t *testing.T) {
	// From the first to the last; they need not be ok, and differ in no more than is asked for.
	ladder := []impl.Val{
		{Kind: -1},
		{N: -1}, {}, {List: []impl.Val{{}}}, {Keys: []string{""}}, {S: "a"}, {N: 1},
		{Kind: impl.ValNo}, {Kind: impl.ValYes},
		num(-impl.ValMost), num(-10), num(-9), num(-1), num(0), num(1), num(9), num(10), num(impl.ValMost), num(impl.ValMost + 1),
		str(""), str("A"), str("a"), str("aa"), str("ab"), str("b"), str("z"), str("é"), str("\xff"),
		row(), row(impl.Val{}), row(impl.Val{}, impl.Val{}), row(num(1)), row(num(1), num(1)), row(num(1), num(1), num(0)), row(num(1), num(2)),
		row(num(2)), row(num(2), num(0)), row(str("b"), row()), row(row()), row(row(num(1))), row(row(num(1)), num(0)), row(row(num(2))), row(keyed(nil)),
		keyed(nil), keyed([]string{""}), keyed([]string{""}, num(5)), keyed([]string{"", "a"}, num(1), num(1)),
		keyed([]string{"a"}, num(1)), keyed([]string{"a"}, num(1), num(0)), keyed([]string{"a"}, num(5)), keyed([]string{"a", "a"}, num(0), num(0)),
		keyed([]string{"a", "b"}, num(1), num(1)), keyed([]string{"a", "b"}, num(1), num(2)), keyed([]string{"a", "b"}, num(2), num(1)),
		keyed([]string{"a", "c"}, num(0), num(0)), keyed([]string{"aa"}, num(0)), keyed([]string{"b"}, num(0)), keyed([]string{"b", "a"}, num(0), num(0)),
		{Kind: 7}, {Kind: 8},
	}
	for i, a := range ladder {
		for j, b := range ladder {
			want := 0
			if i < j {
				want = -1
			} else if i > j {
				want = 1
			}
			if got := impl.ValOrder(a, clone(b)); got != want {
				t.Errorf("order of %v and %v: %d, not %d", a, b, got, want)
			}
			if got := impl.ValSame(a, clone(b)); got != (i == j) {
				t.Errorf("%v and %v are the same: %v", a, b, got)
			}
		}
	}
}

func TestValOrderIsOne(t *testing.T) {
	d := dice(3)
	list := d.trees(140)
	for _, a := range list {
		for _, b := range list {
			ab := impl.ValOrder(a, b)
			if ab < -1 || ab > 1 || impl.ValOrder(b, a) != -ab || same(t, a, b) != equal(a, b) {
				t.Fatalf("order of %s and %s: %d", plain(a), plain(b), ab)
			}
			for _, c := range list {
				if ab <= 0 && impl.ValOrder(b, c) <= 0 && impl.ValOrder(a, c) > min(ab, impl.ValOrder(b, c)) {
					t.Fatalf("order of %s, %s and %s", plain(a), plain(b), plain(c))
				}
			}
		}
	}
}

func TestValOfNothing(t *testing.T) {
	pairs := [][2]impl.Val{
		{{}, {Keys: []string{}, List: []impl.Val{}}},
		{row(), {Kind: impl.ValRow, Keys: []string{}, List: []impl.Val{}}},
		{keyed(nil), {Kind: impl.ValMap, Keys: []string{}, List: []impl.Val{}}},
		{row(row()), row(impl.Val{Kind: impl.ValRow, List: []impl.Val{}})},
		{str(""), {Kind: impl.ValStr, Keys: []string{}, List: make([]impl.Val, 0, 4)}},
	}
	for _, p := range pairs {
		if !same(t, p[0], p[1]) {
			t.Errorf("%v and %v are not the same", p[0], p[1])
		}
		wantTree(t, p[0])
		wantTree(t, p[1])
	}
	wantTree(t, keyed([]string{""}, impl.Val{}))
	if same(t, row(), keyed(nil)) || same(t, str(""), impl.Val{}) || same(t, row(), row(impl.Val{})) {
		t.Error("nothing of one kind is nothing of another one")
	}
}

func TestValLimits(t *testing.T) {
	long := strings.Repeat("q", impl.ValLong)
	for _, v := range []impl.Val{
		num(impl.ValMost), num(-impl.ValMost), str(long), keyed([]string{long}, num(0)),
		wide(impl.ValSize - 1), rows(impl.ValDeep-1, num(1)), rows(impl.ValDeep-1, row()), rows(impl.ValDeep-1, keyed(nil)),
		rows(impl.ValDeep-2, wide(impl.ValSize-impl.ValDeep+1)), row(wide(29), wide(28)), keyed([]string{"a", "b"}, wide(28), wide(29)),
	} {
		wantTree(t, v)
	}
	for what, v := range map[string]impl.Val{
		"a number":             num(impl.ValMost + 1),
		"a number below 0":     num(-impl.ValMost - 1),
		"the greatest number":  num(1<<63 - 1),
		"the least number":     num(-1 << 63),
		"a text":               str(long + "q"),
		"a key":                keyed([]string{long + "q"}, num(0)),
		"parts":                wide(impl.ValSize),
		"parts of parts":       row(wide(29), wide(29)),
		"parts by keys":        keyed([]string{"a", "b"}, wide(29), wide(29)),
		"parts around a leaf":  rows(impl.ValDeep, num(1)),
		"parts around a row":   rows(impl.ValDeep, row()),
		"parts around a map":   rows(impl.ValDeep, keyed(nil)),
		"maps around a number": rows(impl.ValDeep-1, keyed([]string{"a"}, num(1))),
	} {
		wantNoTree(t, what, v)
		wantNoText(t, plain(v))
	}
	for _, text := range []string{"99999999999999999999", "-99999999999999999999", strings.Repeat("9", 2400)} {
		wantNoText(t, text)
	}
}

func TestValOfTheLongestText(t *testing.T) {
	v := keyed(nil)
	for i := range impl.ValSize - 1 {
		letters := strings.Repeat("y", impl.ValLong-2) + string(rune('a'+i/26)) + string(rune('a'+i%26))
		v.Keys = append(v.Keys, letters)
		v.List = append(v.List, str(letters))
	}
	wantTree(t, v)
	// No tree's text comes near to the bytes that may be read, so that all texts there are refused.
	for _, n := range []int{2499, 2500, 2501, 1 << 20} {
		for _, c := range []string{"[", "]", "0", "1", "-", "a", "'", ",", " ", "\xff"} {
			wantNoText(t, strings.Repeat(c, n))
		}
		wantNoText(t, "["+strings.Repeat("1,", n/2-1)+"1]")
	}
}

// wrongTrees is trees that are not ok, by what is wrong with them.
func wrongTrees() map[string]impl.Val {
	one := []impl.Val{{}}
	key := []string{"a"}
	wrong := map[string]impl.Val{
		"kind below 0":         {Kind: -1},
		"kind 7":               {Kind: 7},
		"number with a text":   {Kind: impl.ValNum, S: "a"},
		"number with keys":     {Kind: impl.ValNum, Keys: key},
		"number with a list":   {Kind: impl.ValNum, List: one},
		"text with a number":   {Kind: impl.ValStr, N: 1},
		"text with keys":       {Kind: impl.ValStr, Keys: key},
		"text with a list":     {Kind: impl.ValStr, List: one},
		"row with a number":    {Kind: impl.ValRow, N: 1},
		"row with a text":      {Kind: impl.ValRow, S: "a"},
		"row with keys":        {Kind: impl.ValRow, Keys: key, List: one},
		"row with an only key": {Kind: impl.ValRow, Keys: []string{""}},
		"map with a number":    {Kind: impl.ValMap, N: -1},
		"map with a text":      {Kind: impl.ValMap, S: "a"},
		"key too many":         {Kind: impl.ValMap, Keys: []string{"a", "b"}, List: one},
		"key too few":          {Kind: impl.ValMap, Keys: key, List: []impl.Val{{}, {}}},
		"keys alone":           {Kind: impl.ValMap, Keys: key},
		"list alone":           {Kind: impl.ValMap, List: one},
		"keys out of order":    keyed([]string{"b", "a"}, num(1), num(2)),
		"longer key first":     keyed([]string{"aa", "a"}, num(1), num(2)),
		"empty key behind":     keyed([]string{"a", ""}, num(1), num(2)),
		"key twice":            keyed([]string{"a", "a"}, num(1), num(1)),
		"empty key twice":      keyed([]string{"", ""}, num(1), num(1)),
		"last keys turned":     keyed([]string{"a", "c", "b"}, num(1), num(1), num(1)),
	}
	for kind := impl.ValNone; kind <= impl.ValYes; kind++ {
		name := fmt.Sprintf("kind %d ", kind)
		wrong[name+"with a number"] = impl.Val{Kind: kind, N: 1}
		wrong[name+"with a text"] = impl.Val{Kind: kind, S: "a"}
		wrong[name+"with keys"] = impl.Val{Kind: kind, Keys: []string{""}}
		wrong[name+"with a list"] = impl.Val{Kind: kind, List: one}
	}
	for _, s := range []string{"A", "Z", "`", "{", "0", "-", " ", "a a", "a'", "é", "\x00", "a\xff", "\uFFFD"} {
		wrong["text "+s] = str(s)
		wrong["key "+s] = keyed([]string{s}, num(0))
	}
	return wrong
}

func TestValWrongTrees(t *testing.T) {
	for what, v := range wrongTrees() {
		wantNoTree(t, what, v)
		wantNoTree(t, what+" in a row", row(num(1), v))
		wantNoTree(t, what+" by a key", keyed([]string{"a", "b"}, v, num(1)))
		if !same(t, v, clone(v)) {
			t.Errorf("%s: not the same as itself", what)
		}
	}
}

// round is a row of so many rows each of which is that row.
func round(many int) impl.Val {
	list := make([]impl.Val, many)
	for i := range list {
		list[i] = impl.Val{Kind: impl.ValRow, List: list}
	}
	return impl.Val{Kind: impl.ValRow, List: list}
}

func TestValOfListsThatHoldThemselves(t *testing.T) {
	other := round(2)
	other.List[1] = num(1)
	for _, v := range []impl.Val{round(1), round(2), round(100), other} {
		wantNoTree(t, "a row that holds itself", v)
		if !same(t, v, v) {
			t.Error("a row that holds itself is not itself")
		}
		if same(t, v, row()) || impl.ValOrder(row(), v) != -1 {
			t.Error("a row that holds itself is empty")
		}
	}
	if !same(t, round(2), round(2)) || same(t, round(1), round(2)) || impl.ValOrder(round(1), round(2)) != -1 {
		t.Error("rows that hold themselves")
	}
	if impl.ValOrder(other, round(2)) != -1 || impl.ValOrder(round(2), other) != 1 {
		t.Error("of two rows that hold themselves, the last part tells")
	}
}

func TestValOfTreesPastAllBounds(t *testing.T) {
	twice := func(leaf impl.Val, last impl.Val) impl.Val {
		v := leaf
		for range 70 {
			v = row(v, v)
		}
		return row(v, last)
	}
	wantNoTree(t, "a tree of more parts than can be counted", twice(num(1), num(1)))
	if !same(t, twice(num(1), num(1)), twice(num(1), num(1))) {
		t.Error("not the same")
	}
	if impl.ValOrder(twice(num(1), num(2)), twice(num(1), num(3))) != -1 || impl.ValOrder(twice(num(2), num(1)), twice(num(1), num(1))) != 1 {
		t.Error("order")
	}
	deep := rows(300000, num(1))
	wantNoTree(t, "a deep tree", deep)
	if !same(t, deep, rows(300000, num(1))) || impl.ValOrder(deep, rows(300000, num(2))) != -1 || impl.ValOrder(deep, rows(300001, num(1))) != -1 {
		t.Error("order of deep trees")
	}
	if impl.ValOrder(wide(1000), wide(1001)) != -1 || !same(t, wide(1000), wide(1000)) || same(t, row(wide(999), num(1)), row(wide(999), num(2))) {
		t.Error("order of wide trees")
	}
	wantNoTree(t, "a wide tree", wide(300000))
}

func TestValOfListsThatAreThereTwice(t *testing.T) {
	behind := func(parts ...impl.Val) impl.Val { return row(append(wide(100).List, parts...)...) }
	one, two := row(num(1), num(2)), row(num(1), num(2))
	short := impl.Val{Kind: impl.ValRow, List: two.List[:1]}
	for _, other := range []impl.Val{row(num(1), num(1)), row(num(0)), short, row()} {
		if impl.ValOrder(behind(one, one), behind(two, other)) != 1 || impl.ValOrder(behind(two, other), behind(one, one)) != -1 {
			t.Errorf("%v is taken for %v", plain(other), plain(one))
		}
	}
	if !same(t, behind(one, one), behind(two, one)) || !same(t, behind(one, two), behind(two, one)) {
		t.Error("not the same")
	}
}

func TestValWritesIntoNoArgument(t *testing.T) {
	d := dice(4)
	wrong := []impl.Val{keyed([]string{"b", "a"}, num(1), num(2)), row(wide(60)), {Kind: 9, List: []impl.Val{str("A")}}}
	for _, plainTree := range append(d.trees(300), wrong...) {
		v, w := roomy(plainTree), roomy(plainTree)
		before := spare(v)
		impl.ValOk(v)
		impl.ValMany(v)
		impl.ValText(v)
		impl.ValSame(v, w)
		impl.ValOrder(v, w)
		impl.ValOrder(v, row(v))
		if !equal(spare(v), before) || !equal(spare(w), before) {
			t.Fatalf("written into %v", before)
		}
	}
}

func TestValReadsIntoNewMemory(t *testing.T) {
	d := dice(5)
	for _, v := range d.trees(300) {
		text := impl.ValText(v)
		first, second := read(t, text), read(t, text)
		apart(t, text, first, second)
		lists(first, func(keys []string) {
			for i := range keys {
				keys[i] = "X"
			}
		}, func(list []impl.Val) {
			for i := range list {
				list[i] = impl.Val{Kind: 99}
			}
		})
		if !equal(second, v) || !equal(read(t, text), v) {
			t.Fatalf("%s was kept", text)
		}
	}
}
