package tests

import (
	"fmt"
	"slices"
	"strings"
	"testing"

	"loop.example/cribble/impl"
)

// both is an edit between two trees that are there.
func both(p []impl.Step, was, now impl.Val) impl.Edit {
	return impl.Edit{Path: p, Was: was, Had: true, Now: now, Has: true}
}

// gone is an edit behind which a key is there no more.
func gone(p []impl.Step, was impl.Val) impl.Edit {
	return impl.Edit{Path: p, Was: was, Had: true}
}

// come is an edit behind which a key is there that was not.
func come(p []impl.Step, now impl.Val) impl.Edit {
	return impl.Edit{Path: p, Now: now, Has: true}
}

// readEdits is the edits of lines as EditText writes them.
func readEdits(t *testing.T, text string) []impl.Edit {
	t.Helper()
	var list []impl.Edit
	for _, line := range strings.Split(strings.TrimSuffix(text, "\n"), "\n") {
		words := strings.Fields(line)
		if len(words) == 0 {
			continue
		}
		p, ok := impl.PathRead(words[0])
		if !ok || len(words) != 3 {
			t.Fatalf("%q is no edit", line)
		}
		e := impl.Edit{Path: p, Had: words[1] != "-", Has: words[2] != "-"}
		if e.Had {
			e.Was = read(t, words[1])
		}
		if e.Has {
			e.Now = read(t, words[2])
		}
		list = append(list, e)
	}
	return list
}

// plainEdits writes edits that are ok as the document says, without the program.
func plainEdits(list []impl.Edit) string {
	text := ""
	for _, e := range list {
		was, now := "-", "-"
		if e.Had {
			was = plain(e.Was)
		}
		if e.Has {
			now = plain(e.Now)
		}
		text += plainWay(e.Path) + " " + was + " " + now + "\n"
	}
	return text
}

// sameEdits compares edits field by field, without the program.
func sameEdits(a, b []impl.Edit) bool {
	return slices.EqualFunc(a, b, func(a, b impl.Edit) bool {
		return slices.Equal(a.Path, b.Path) && equal(a.Was, b.Was) && a.Had == b.Had && equal(a.Now, b.Now) && a.Has == b.Has
	})
}

// editsModel is what is turned between two trees, without the program.
func editsModel(a, b impl.Val, way []impl.Step) []impl.Edit {
	var list []impl.Edit
	switch {
	case equal(a, b):
	case a.Kind == impl.ValMap && b.Kind == impl.ValMap:
		keys := append(slices.Clone(a.Keys), b.Keys...)
		slices.Sort(keys)
		for _, key := range slices.Compact(keys) {
			p := append(slices.Clone(way), steps(key)...)
			i, j := slices.Index(a.Keys, key), slices.Index(b.Keys, key)
			if j < 0 {
				list = append(list, gone(p, a.List[i]))
			} else if i < 0 {
				list = append(list, come(p, b.List[j]))
			} else {
				list = append(list, editsModel(a.List[i], b.List[j], p)...)
			}
		}
	case a.Kind == impl.ValRow && b.Kind == impl.ValRow && len(a.List) == len(b.List):
		for at := range a.List {
			list = append(list, editsModel(a.List[at], b.List[at], append(slices.Clone(way), steps(at)...))...)
		}
	default:
		list = append(list, both(way, a, b))
	}
	return list
}

// doneAlong is a tree behind an edit, from some step of its way on, without the program, and whether what was is there.
func doneAlong(v impl.Val, p []impl.Step, e impl.Edit) (impl.Val, bool) {
	if len(p) == 0 {
		return e.Now, equal(v, e.Was)
	}
	v.Keys, v.List = slices.Clone(v.Keys), slices.Clone(v.List)
	i, ok := -1, false
	if p[0].Map && v.Kind == impl.ValMap {
		i, ok = slices.BinarySearch(v.Keys, p[0].Key)
	} else if !p[0].Map && v.Kind == impl.ValRow {
		i = p[0].At
		if i < 0 && len(p) > 1 {
			i += len(v.List)
		}
		ok = i >= 0 && i < len(v.List)
	} else {
		return impl.Val{}, false
	}
	if len(p) == 1 && !e.Had {
		if ok {
			return impl.Val{}, false
		}
		v.Keys, v.List = slices.Insert(v.Keys, i, p[0].Key), slices.Insert(v.List, i, e.Now)
		return v, true
	}
	if !ok {
		return impl.Val{}, false
	}
	if len(p) == 1 && !e.Has {
		was := v.List[i]
		v.Keys, v.List = slices.Delete(v.Keys, i, i+1), slices.Delete(v.List, i, i+1)
		return v, equal(was, e.Was)
	}
	v.List[i], ok = doneAlong(v.List[i], p[1:], e)
	return v, ok
}

// doModel is a tree behind edits, without the program, and whether that can be told.
func doModel(v impl.Val, list []impl.Edit) (impl.Val, bool) {
	if !editsOkModel(list) {
		return impl.Val{}, false
	}
	for _, e := range list {
		next, ok := doneAlong(v, e.Path, e)
		if !ok {
			return impl.Val{}, false
		}
		v = next
	}
	return v, fits(v)
}

// editsOkModel says whether edits between trees that are ok are right, without the program.
func editsOkModel(list []impl.Edit) bool {
	for _, e := range list {
		key := len(e.Path) > 0 && e.Path[len(e.Path)-1].Map
		wrong := !wayOk(e.Path) || !e.Had && !equal(e.Was, impl.Val{}) || !e.Has && !equal(e.Now, impl.Val{})
		if wrong || !e.Had && !e.Has || (!e.Had || !e.Has) && !key {
			return false
		}
	}
	return len(list) <= 60
}

// turnedModel is edits turned back, without the program.
func turnedModel(list []impl.Edit) []impl.Edit {
	var back []impl.Edit
	for _, e := range list {
		back = slices.Insert(back, 0, impl.Edit{Path: e.Path, Was: e.Now, Had: e.Has, Now: e.Was, Has: e.Had})
	}
	return back
}

// wantEdits asks for edits, their text, and that they are right just if they are not too many.
func wantEdits(t *testing.T, what string, want []impl.Edit, got []impl.Edit) {
	t.Helper()
	if !sameEdits(got, want) {
		t.Fatalf("%s: %q, not %q", what, plainEdits(got), plainEdits(want))
	}
	if text := impl.EditText(got); text != plainEdits(want) {
		t.Fatalf("%s: text %q, not %q", what, text, plainEdits(want))
	}
	if ok := impl.EditOk(got); ok != (len(want) <= impl.EditMost) {
		t.Fatalf("%s: ok %v", what, ok)
	}
}

// wantTurned asks that what is turned from one tree to another one turns it into that, and back again.
func wantTurned(t *testing.T, a, b impl.Val) []impl.Edit {
	t.Helper()
	what := "from " + plain(a) + " to " + plain(b)
	list := impl.EditOf(a, b)
	wantEdits(t, what, editsModel(a, b, nil), list)
	if len(list) > impl.EditMost {
		wantRefused(t, what, a, list)
		return list
	}
	got, ok := impl.EditDo(a, list)
	wantPart(t, what, plain(b), got, ok)
	back := impl.EditBack(list)
	wantEdits(t, what+", back", turnedModel(list), back)
	got, ok = impl.EditDo(b, back)
	wantPart(t, what+", back", plain(a), got, ok)
	if again := impl.EditBack(back); !sameEdits(again, list) {
		t.Fatalf("%s: twice back %q", what, plainEdits(again))
	}
	return list
}

// wantRefused asks for the answers of edits that are not ok.
func wantRefused(t *testing.T, what string, v impl.Val, list []impl.Edit) {
	t.Helper()
	if impl.EditOk(list) {
		t.Fatalf("%s: ok", what)
	}
	if back := impl.EditBack(list); len(back) > 0 {
		t.Fatalf("%s: back %v", what, back)
	}
	got, ok := impl.EditDo(v, list)
	wantPart(t, what, "", got, ok)
}

func TestEditOf(t *testing.T) {
	for _, c := range []struct{ a, b, want string }{
		// Keys of the first alone, of the second alone, of both.
		{"{a:1}", "{}", "$.a 1 -\n"}, {"{}", "{a:1}", "$.a - 1\n"}, {"{a:1}", "{a:2}", "$.a 1 2\n"}, {"{a:1}", "{b:1}", "$.a 1 -\n$.b - 1\n"}, {"{b:1}", "{a:1}", "$.a - 1\n$.b 1 -\n"},
		{"{a:1,b:2}", "{b:2}", "$.a 1 -\n"}, {"{a:1,b:2}", "{a:1}", "$.b 2 -\n"}, {"{b:2}", "{a:1,b:2,c:3}", "$.a - 1\n$.c - 3\n"}, {"{:1}", "{}", "$. 1 -\n"}, {"{:1}", "{:2,a:3}", "$. 1 2\n$.a - 3\n"},
		// A key whose tree is nothing is there.
		{"{c:null}", "{}", "$.c null -\n"}, {"{}", "{c:null}", "$.c - null\n"}, {"{c:null}", "{c:1}", "$.c null 1\n"}, {"{c:1}", "{c:null}", "$.c 1 null\n"}, {"{c:null}", "{c:null}", ""}, {"{a:null}", "{b:null}", "$.a null -\n$.b - null\n"}, {"{a:{b:null}}", "{a:{}}", "$.a.b null -\n"}, {"{a:null}", "{a:{}}", "$.a null {}\n"}, {"{:null}", "{}", "$. null -\n"},
		// Keys of either in order.
		{"{a:1,c:1,e:1}", "{b:1,c:2,d:1}", "$.a 1 -\n$.b - 1\n$.c 1 2\n$.d - 1\n$.e 1 -\n"}, {"{d:1,e:1}", "{a:1,b:1}", "$.a - 1\n$.b - 1\n$.d 1 -\n$.e 1 -\n"}, {"{a:1,ab:1,b:1}", "{aa:1,b:2}", "$.a 1 -\n$.aa - 1\n$.ab 1 -\n$.b 1 2\n"}, {"{:1,b:1}", "{a:1}", "$. 1 -\n$.a - 1\n$.b 1 -\n"},
		// Rows of as many trees, and of another length.
		{"[1]", "[2]", "$[0] 1 2\n"}, {"[1,2,3]", "[1,5,3]", "$[1] 2 5\n"}, {"[1,2,3]", "[4,2,5]", "$[0] 1 4\n$[2] 3 5\n"}, {"[1,2]", "[2,1]", "$[0] 1 2\n$[1] 2 1\n"}, {"[null]", "[1]", "$[0] null 1\n"}, {"[1,2]", "[1,null]", "$[1] 2 null\n"},
		{"[1]", "[1,2]", "$ [1] [1,2]\n"}, {"[1,2]", "[1]", "$ [1,2] [1]\n"}, {"[]", "[1]", "$ [] [1]\n"}, {"[1]", "[]", "$ [1] []\n"}, {"[]", "[null]", "$ [] [null]\n"}, {"[null,1]", "[null]", "$ [null,1] [null]\n"},
		// Trees of other kinds.
		{"5", "'a'", "$ 5 'a'\n"}, {"5", "6", "$ 5 6\n"}, {"'a'", "'b'", "$ 'a' 'b'\n"}, {"[]", "{}", "$ [] {}\n"}, {"{}", "[]", "$ {} []\n"}, {"null", "false", "$ null false\n"}, {"false", "true", "$ false true\n"}, {"0", "''", "$ 0 ''\n"}, {"null", "{}", "$ null {}\n"}, {"{}", "null", "$ {} null\n"}, {"null", "{a:1}", "$ null {a:1}\n"}, {"[1]", "null", "$ [1] null\n"}, {"{a:1}", "[1]", "$ {a:1} [1]\n"}, {"[1]", "1", "$ [1] 1\n"},
		// Trees in trees.
		{"{a:{b:{c:1}}}", "{a:{b:{c:2}}}", "$.a.b.c 1 2\n"}, {"{a:{b:{c:1}}}", "{a:{b:{d:1}}}", "$.a.b.c 1 -\n$.a.b.d - 1\n"}, {"[[1,2],[3]]", "[[1,4],[5]]", "$[0][1] 2 4\n$[1][0] 3 5\n"}, {"[[1,2],[3]]", "[[1],[5]]", "$[0] [1,2] [1]\n$[1][0] 3 5\n"}, {"{a:[1],b:[1,2]}", "{a:[1,2],b:[1,3]}", "$.a [1] [1,2]\n$.b[1] 2 3\n"}, {"[{a:1},{b:2}]", "[{a:2},{c:2}]", "$[0].a 1 2\n$[1].b 2 -\n$[1].c - 2\n"}, {"{a:[1]}", "{a:{a:1}}", "$.a [1] {a:1}\n"}, {"{a:{x:1},b:[{}]}", "{b:[{y:[]}],c:{z:{}}}", "$.a {x:1} -\n$.b[0].y - []\n$.c - {z:{}}\n"},
		{"[[[[[1]]]]]", "[[[[[2]]]]]", "$[0][0][0][0][0] 1 2\n"}, {"{a:{b:{c:{d:{e:1}}}}}", "{a:{b:{c:{d:{f:1}}}}}", "$.a.b.c.d.e 1 -\n$.a.b.c.d.f - 1\n"}, {"[[[[[]]]]]", "[[[[{}]]]]", "$[0][0][0][0] [] {}\n"},
		{"{a:1,b:[1,2],c:null}", "{a:1,b:[1,3],d:{x:1}}", "$.b[1] 2 3\n$.c null -\n$.d - {x:1}\n"},
	} {
		if got := plainEdits(wantTurned(t, read(t, c.a), read(t, c.b))); got != c.want {
			t.Errorf("from %s to %s: %q, not %q", c.a, c.b, got, c.want)
		}
	}
}

func TestEditOfTheSame(t *testing.T) {
	d := dice(51)
	list := append(d.branches(500), row(), keyed(nil), wide(impl.ValSize-1), rows(impl.ValDeep-1, num(1)), keyed([]string{""}, impl.Val{}))
	for kind := range 7 {
		list = append(list, impl.Val{Kind: kind})
	}
	for _, v := range list {
		if got := impl.EditOf(v, roomy(v)); len(got) > 0 {
			t.Fatalf("from %s to itself: %q", plain(v), plainEdits(got))
		}
		wantTurned(t, v, v)
	}
	// The empty list and none are the same.
	if got := impl.EditOf(impl.Val{Kind: impl.ValMap, Keys: []string{}, List: []impl.Val{}}, keyed(nil)); len(got) > 0 {
		t.Errorf("%q", plainEdits(got))
	}
}

func TestEditOfFewTrees(t *testing.T) {
	var list []impl.Val
	for _, text := range []string{
		"null", "false", "true", "0", "1", "''", "'a'", "[]", "[null]", "[1]", "[[]]", "[1,1]", "[1,null]", "[[],[1]]", "[{},1]", "[{a:1},1]", "{}", "{:1}", "{a:null}", "{a:1}", "{a:[]}", "{a:[1]}", "{a:{}}", "{a:{a:1}}", "{a:{b:null}}",
		"{a:1,b:1}", "{a:null,b:null}", "{b:1}", "{b:null}", "{b:1,c:2}", "{a:1,c:2}", "{a:[1,2],b:{a:1}}", "{a:[1,3],b:{b:1}}", "{:null,a:[{b:1}]}", "{:null,a:[{b:2,c:1}]}",
	} {
		list = append(list, read(t, text))
	}
	for _, a := range list {
		for _, b := range list {
			wantTurned(t, a, b)
		}
	}
}

// branch is a tree like those of tree, with more parts around one another.
func (d *dice) branch(room *int, deep int) impl.Val {
	if deep == 1 || d.below(5) == 0 {
		return d.tree(room, deep)
	}
	*room--
	v := row()
	for range 1 + d.below(4) {
		if *room > 0 {
			v.List = append(v.List, d.branch(room, deep-1))
		}
	}
	if d.below(2) == 0 {
		v.Kind = impl.ValMap
		for len(v.Keys) < len(v.List) {
			v.Keys = append(v.Keys, d.text())
			slices.Sort(v.Keys)
			v.Keys = slices.Compact(v.Keys)
		}
	}
	return v
}

// branches is so many trees that are ok, most of them of many parts.
func (d *dice) branches(n int) []impl.Val {
	var list []impl.Val
	for range n {
		room := 10 + d.below(impl.ValSize-10)
		list = append(list, d.branch(&room, 2+d.below(impl.ValDeep-1)))
	}
	return list
}

// changed is a tree of which something is changed, here or further in; it may have too many parts.
func (d *dice) changed(v impl.Val) impl.Val {
	v = clone(v)
	i, room := 0, 1+d.below(4)
	if len(v.List) > 0 {
		i = d.below(len(v.List))
	}
	x := d.tree(&room, 1+d.below(3))
	switch act := d.below(8); {
	case act == 0 || v.Kind < impl.ValRow:
		return x
	case act == 1 && v.Kind == impl.ValMap:
		return putModel(v, d.text(), x)
	case act == 1:
		v.List = slices.Insert(v.List, i, x)
	case act == 2 && v.Kind == impl.ValMap && len(v.List) > 0:
		v.Keys, v.List = slices.Delete(v.Keys, i, i+1), slices.Delete(v.List, i, i+1)
	case len(v.List) > 0:
		v.List[i] = d.changed(v.List[i])
	}
	return v
}

// turnedTree is a tree that is ok with some changes.
func (d *dice) turnedTree(v impl.Val) impl.Val {
	for range 1 + d.below(5) {
		if next := d.changed(v); fits(next) {
			v = next
		}
	}
	return v
}

func TestEditOfManyTurnsThemAndBack(t *testing.T) {
	d := dice(52)
	all, far := append(d.trees(2000), d.branches(3000)...), 0
	for i, a := range all {
		wantTurned(t, a, all[(i*7+3)%len(all)])
		for _, e := range wantTurned(t, a, d.turnedTree(a)) {
			if len(e.Path) > 2 {
				far++
			}
		}
	}
	if far < 300 {
		t.Fatalf("only %d edits are far in", far)
	}
}

// mapOf is a map of numbers by so many keys, from one on.
func mapOf(from, many, add int) impl.Val {
	v := keyed(wideKeys(impl.ValSize + from + many)[from : from+many])
	for i := range many {
		v.List = append(v.List, num(from+i+add))
	}
	return v
}

func TestEditOfTheMostEdits(t *testing.T) {
	for _, c := range []struct {
		a, b impl.Val
		many int
	}{
		{wide(59), row(backModel(wide(59).List)...), 58}, {mapOf(0, 59, 0), mapOf(0, 59, 1), 59}, {mapOf(0, 30, 0), mapOf(30, 30, 0), 60}, {mapOf(0, 59, 0), mapOf(1, 59, 1), 60}, {mapOf(0, 31, 0), mapOf(31, 30, 0), 61}, {mapOf(0, 59, 0), mapOf(59, 59, 0), 118},
		{keyed(nil), mapOf(0, 59, 0), 59}, {mapOf(0, 59, 0), keyed(nil), 59}, {wide(59), wide(58), 1}, {mapOf(0, 59, 0), wide(59), 1},
	} {
		if got := wantTurned(t, c.a, c.b); len(got) != c.many {
			t.Errorf("%d edits from %s to %s, not %d", len(got), plain(c.a), plain(c.b), c.many)
		}
	}
}

func TestEditDo(t *testing.T) {
	for _, c := range []struct{ tree, edits, want string }{
		{"{a:1}", "", "{a:1}"}, {"null", "", "null"}, {"5", "", "5"},
		// The way of no steps.
		{"1", "$ 1 2", "2"}, {"1", "$ 2 1", ""}, {"null", "$ null {a:1}", "{a:1}"}, {"{a:1}", "$ {a:1} null", "null"}, {"{a:1}", "$ {a:2} null", ""}, {"{a:1}", "$ {} {a:2}", ""}, {"null", "$ false 1", ""}, {"[]", "$ {} 1", ""}, {"[1,2]", "$ [1,2] []", "[]"}, {"1", "$ 1 1", "1"},
		// A key.
		{"{a:1}", "$.a 1 2", "{a:2}"}, {"{a:1}", "$.a 2 1", ""}, {"{a:1}", "$.a 1 -", "{}"}, {"{a:1}", "$.a 2 -", ""}, {"{a:1}", "$.b - 2", "{a:1,b:2}"}, {"{b:1}", "$.a - 2", "{a:2,b:1}"}, {"{}", "$. - 2", "{:2}"}, {"{:2}", "$. 2 -", "{}"}, {"{}", "$.a - null", "{a:null}"}, {"{a:null}", "$.a null -", "{}"}, {"{a:null}", "$.a null 1", "{a:1}"}, {"{a:1}", "$.a 1 null", "{a:null}"}, {"{a:1,b:2,c:3}", "$.b 2 -", "{a:1,c:3}"}, {"{a:1,b:2}", "$.a 1 1", "{a:1,b:2}"},
		// A key that is there and should not be, and one that is not there and should be.
		{"{a:1}", "$.a - 2", ""}, {"{a:1}", "$.a - 1", ""}, {"{a:null}", "$.a - 2", ""}, {"{a:null}", "$.a - null", ""}, {"{}", "$.a 1 2", ""}, {"{}", "$.a null 2", ""}, {"{}", "$.a null -", ""}, {"{}", "$.a null null", ""}, {"{b:1}", "$.a 1 -", ""}, {"{:null}", "$. - 1", ""}, {"{}", "$. null 1", ""},
		// A place.
		{"[1,2]", "$[0] 1 5", "[5,2]"}, {"[1,2]", "$[1] 2 5", "[1,5]"}, {"[1,2]", "$[1] 1 5", ""}, {"[null]", "$[0] null 5", "[5]"}, {"[1]", "$[0] 1 null", "[null]"}, {"[[1],2]", "$[0] [1] {}", "[{},2]"}, {"[[1],2]", "$[0] [2] {}", ""},
		// A place below 0, and one behind the end.
		{"[1,2]", "$[-1] 2 5", ""}, {"[1,2]", "$[-2] 1 5", ""}, {"[1,2]", "$[-3] null 5", ""}, {"[1,2]", "$[2] null 5", ""}, {"[1,2]", "$[59] null 5", ""}, {"[]", "$[0] null 1", ""}, {"[]", "$[-1] null 1", ""}, {"[]", "$[0] null null", ""}, {"[[1]]", "$[0][-1] 1 2", ""}, {"[[1]]", "$[0][1] null 2", ""}, {"{a:[1]}", "$.a[-1] 1 2", ""}, {"[null]", "$[-1] null null", ""}, {"[1,2]", "$[-60] null 5", ""},
		// On the way to the last step a place may be below 0.
		{"[[1],[2]]", "$[-1][0] 2 5", "[[1],[5]]"}, {"[[1],[2]]", "$[-2][0] 1 5", "[[5],[2]]"}, {"[[1],[2]]", "$[-3][0] 1 5", ""}, {"[[1],[2]]", "$[2][0] null 5", ""}, {"[{a:1},{}]", "$[-2].a 1 -", "[{},{}]"}, {"[{a:1},{}]", "$[-1].a - 2", "[{a:1},{a:2}]"}, {"{a:[[[1]]]}", "$.a[-1][-1][0] 1 2", "{a:[[[2]]]}"},
		// A way through what has no keys or no places.
		{"null", "$.a - 1", ""}, {"null", "$.a null 1", ""}, {"null", "$[0] null 1", ""}, {"5", "$.a - 1", ""}, {"'a'", "$[0] null 1", ""}, {"true", "$.a null -", ""}, {"false", "$[0] null 1", ""}, {"[1]", "$.a - 1", ""}, {"[]", "$.a - 1", ""}, {"[1]", "$. 1 2", ""}, {"[1]", "$. - 2", ""}, {"{a:1}", "$[0] 1 2", ""}, {"{:1}", "$[0] 1 2", ""}, {"{}", "$[0] null 1", ""},
		{"{a:5}", "$.a.b - 1", ""}, {"{a:5}", "$.a[0] null 1", ""}, {"{a:null}", "$.a.b - 1", ""}, {"{a:null}", "$.a.b null 1", ""}, {"{a:null}", "$.a[0] null 1", ""}, {"{}", "$.a.b - 1", ""}, {"{}", "$.a.b.c - 1", ""}, {"{}", "$.a[0] null 1", ""}, {"{}", "$.a[0].b - 1", ""}, {"[]", "$[0].a - 1", ""}, {"[]", "$[0][0] null 1", ""}, {"[{a:1}]", "$.a.b - 1", ""}, {"{:{a:1}}", "$[0].a 1 2", ""}, {"[[1]]", "$.[0] 1 2", ""}, {"{a:[{b:1}]}", "$[0].b 1 2", ""}, {"[{a:{}}]", "$[0][0].b - 1", ""},
		// Trees in trees; all else stays.
		{"{a:{b:[1,{c:2}]},d:3}", "$.a.b[1].c 2 5", "{a:{b:[1,{c:5}]},d:3}"}, {"{a:{b:[1,{c:2}]},d:3}", "$.a.b[1].c 2 -", "{a:{b:[1,{}]},d:3}"}, {"{a:{b:[1,{c:2}]},d:3}", "$.a.b[1].d - 5", "{a:{b:[1,{c:2,d:5}]},d:3}"}, {"{a:{b:[1,{c:2}]},d:3}", "$.a.b [1,{c:2}] -", "{a:{},d:3}"}, {"{a:{b:[1,{c:2}]},d:3}", "$.a.b [1,{c:3}] -", ""}, {"{a:{b:[1,{c:2}]},d:3}", "$.a.b[1] {c:2} {}", "{a:{b:[1,{}]},d:3}"}, {"[[[[[1]]]]]", "$[0][0][0][0][0] 1 2", "[[[[[2]]]]]"},
		// One behind the other, the second on what the first made.
		{"{a:1}", "$.a 1 2\n$.a 2 3", "{a:3}"}, {"{a:1}", "$.a 1 2\n$.a 1 3", ""}, {"{}", "$.a - {}\n$.a.b - []\n$.a.b [] [1]\n$.a.b[0] 1 2", "{a:{b:[2]}}"}, {"{a:1}", "$.a 1 -\n$.a - 2", "{a:2}"}, {"{a:1}", "$.a 1 -\n$.a 1 -", ""}, {"{}", "$.a - 1\n$.a - 1", ""}, {"{}", "$.a - 1\n$.a 1 -", "{}"}, {"1", "$ 1 {}\n$.a - 1\n$ {a:1} [2]\n$[0] 2 3", "[3]"}, {"{a:[1]}", "$.a[0] 1 2\n$.a [2] -", "{}"}, {"{a:[1]}", "$.a[0] 1 2\n$.a [1] -", ""}, {"{a:[1]}", "$.a [1] -\n$.a[0] 1 2", ""}, {"[1,2]", "$[0] 1 2\n$[1] 2 1", "[2,1]"}, {"[1,2]", "$[1] 2 1\n$[0] 1 2", "[2,1]"},
		// One of several that can not be done.
		{"{a:1,b:2}", "$.a 1 3\n$.b 9 4", ""}, {"{a:1,b:2}", "$.a 9 3\n$.b 2 4", ""}, {"{a:1,b:2}", "$.a 9 3\n$.a 1 9", ""},
	} {
		v, list := read(t, c.tree), readEdits(t, c.edits)
		got, ok := impl.EditDo(v, list)
		wantPart(t, fmt.Sprintf("%s then %q", c.tree, c.edits), c.want, got, ok)
		model, can := doModel(v, list)
		if can != (c.want != "") || can && plain(model) != c.want {
			t.Errorf("the model of %s then %q: %s, %v", c.tree, c.edits, plain(model), can)
		}
		if !ok {
			continue
		}
		back, ok := impl.EditDo(got, impl.EditBack(list))
		wantPart(t, fmt.Sprintf("%s then %q, back", c.tree, c.edits), c.tree, back, ok)
	}
}

func TestEditDoOfTreesThatAreTooGreatInBetween(t *testing.T) {
	v := keyed([]string{"a", "b"}, wide(56), num(1))
	full := keyed([]string{"a", "b"}, wide(56), row(num(1)))
	over := both(steps("b"), num(1), row(num(1), num(2)))
	for _, c := range []struct {
		what string
		v    impl.Val
		list []impl.Edit
		want string
	}{
		{"the most parts", v, []impl.Edit{both(steps("b"), num(1), row(num(1)))}, plain(full)},
		{"a part too many", v, []impl.Edit{over}, ""},
		{"a part too many, then less", v, []impl.Edit{over, both(steps("a"), wide(56), num(0))}, "{a:0,b:[1,2]}"},
		{"a part too many, then as it was", v, []impl.Edit{over, both(steps("b"), row(num(1), num(2)), num(1))}, plain(v)},
		{"a part too many, then a key less", v, []impl.Edit{over, gone(steps("a"), wide(56))}, "{b:[1,2]}"},
		{"a part too many, then one inside of it", v, []impl.Edit{over, both(steps("b", 1), num(2), num(3)), both(steps("b", -1), num(3), num(4))}, ""},
		{"a part too many, then another inside of it", v, []impl.Edit{over, both(steps("b", 1), num(2), num(3)), gone(steps("a"), wide(56))}, "{b:[1,3]}"},
		{"a part too many, then what was is not there", v, []impl.Edit{over, gone(steps("a"), wide(55))}, ""},
		{"a key too many", mapOf(0, 59, 0), []impl.Edit{come(steps("zz"), num(1))}, ""},
		{"a key too many, then one less", mapOf(0, 59, 0), []impl.Edit{come(steps("zz"), num(1)), gone(steps(wideKeys(1)[0]), num(0)), gone(steps("zz"), num(1)), come(steps(wideKeys(1)[0]), num(7))}, strings.Replace(plain(mapOf(0, 59, 0)), ":0,", ":7,", 1)},
		{"many parts too many", wide(59), manyGreat(), plain(wide(59))},
		{"many parts too many at the end", wide(59), manyGreat()[:30], ""},
		{"the deepest", rows(5, num(1)), []impl.Edit{both(steps(0, 0, 0, 0, 0), num(1), row())}, "[[[[[[]]]]]]"},
		{"one too deep", rows(5, num(1)), []impl.Edit{both(steps(0, 0, 0, 0, 0), num(1), row(num(1)))}, ""},
		{"one too deep, then 6 steps into it", rows(5, num(1)), []impl.Edit{both(steps(0, 0, 0, 0, 0), num(1), row(num(1))), both(steps(0, 0, 0, 0, 0, 0), num(1), num(2)), both(steps(0, 0, 0, 0, 0), row(num(2)), num(7))}, "[[[[[7]]]]]"},
		{"as deep as can be, then mended", rows(5, num(1)), []impl.Edit{both(steps(0, 0, 0, 0, 0), num(1), row(num(1))), both(steps(0, 0, 0, 0, 0, 0), num(1), rows(5, num(1))), both(steps(0, 0, 0, 0, 0, 0), rows(5, num(1)), num(3)), both(steps(0), rows(5, num(3)), str("a"))}, "['a']"},
		{"as deep as can be, and a Was that is not all of it", rows(5, num(1)), []impl.Edit{both(steps(0, 0, 0, 0, 0), num(1), row(num(1))), both(steps(0, 0, 0, 0, 0, 0), num(1), rows(5, num(1))), both(steps(0), rows(5, num(1)), str("a"))}, ""},
	} {
		model, can := doModel(c.v, c.list)
		if can != (c.want != "") || can && plain(model) != c.want {
			t.Errorf("%s: the model has %s, %v", c.what, plain(model), can)
		}
		got, ok := impl.EditDo(c.v, c.list)
		wantPart(t, c.what, c.want, got, ok)
	}
}

// manyGreat is 30 edits that put great rows into a wide one, and 30 that take them out again.
func manyGreat() []impl.Edit {
	var list []impl.Edit
	for at := range 30 {
		list = append(list, both(steps(at), num(at), wide(59)))
	}
	for at := range 30 {
		list = append(list, both(steps(at), wide(59), num(at)))
	}
	return list
}

// nearEdits is edits that nearly turn one tree into another one.
func (d *dice) nearEdits(a, b impl.Val) []impl.Edit {
	list := editsModel(a, b, nil)
	for range d.below(3) {
		room := 1 + d.below(6)
		x := d.tree(&room, 1+d.below(3))
		at := d.below(len(list) + 1)
		list = slices.Insert(list, at, both(d.way(a), x, x))
		e := &list[d.below(len(list))]
		switch d.below(10) {
		case 0:
			e.Was, e.Had = impl.Val{}, !e.Had
		case 1:
			e.Now, e.Has = impl.Val{}, !e.Has
		case 2:
			e.Was = d.changed(e.Was)
		case 3:
			e.Now = d.changed(e.Now)
		case 4:
			e.Path = d.way(a)
		case 5:
			e.Path = slices.Clone(e.Path)
			if len(e.Path) > 0 {
				e.Path[d.below(len(e.Path))].At -= d.below(3)
			}
		case 6:
			got, _ := getAlong(a, e.Path)
			e.Was, e.Had = got, true
		}
		if d.below(2) == 0 {
			list = slices.Delete(list, at, at+1)
		}
	}
	return list
}

func TestEditDoOfMany(t *testing.T) {
	d := dice(53)
	done, refused, wrong := 0, 0, 0
	for _, a := range append(d.trees(2000), d.branches(8000)...) {
		b := d.turnedTree(a)
		list := d.nearEdits(a, b)
		if !allFit(list) {
			continue
		}
		what := plain(a) + fmt.Sprintf(" then %v", list)
		okEdits := editsOkModel(list)
		if got := impl.EditOk(list); got != okEdits {
			t.Fatalf("%s: ok %v", what, got)
		}
		want, can := doModel(a, list)
		got, ok := impl.EditDo(a, list)
		wantCan(t, what, want, can, got, ok)
		switch {
		case !okEdits:
			wrong++
			wantRefused(t, what, a, list)
		case can:
			done++
		default:
			refused++
		}
		if okEdits && !sameEdits(impl.EditBack(list), turnedModel(list)) {
			t.Fatalf("%s: back %v", what, impl.EditBack(list))
		}
	}
	if done < 2000 || refused < 500 || wrong < 200 {
		t.Fatalf("only %d done, %d refused and %d wrong", done, refused, wrong)
	}
}

// allFit says whether all trees of edits are within their bounds, without the program.
func allFit(list []impl.Edit) bool {
	return !slices.ContainsFunc(list, func(e impl.Edit) bool { return !fits(e.Was) || !fits(e.Now) })
}

func TestEditBack(t *testing.T) {
	for text, want := range map[string]string{
		"": "", "$ 1 2": "$ 2 1\n", "$.a - 1": "$.a 1 -\n", "$.a 1 -": "$.a - 1\n", "$.a null -": "$.a - null\n", "$.a - null": "$.a null -\n", "$[0] null 1": "$[0] 1 null\n", "$[-1] 1 2": "$[-1] 2 1\n",
		"$.a 1 2\n$.b - 3\n$.c [4] -\n$ null {}": "$ {} null\n$.c - [4]\n$.b 3 -\n$.a 2 1\n",
		"$.a 1 2\n$.a 2 3\n$.a 3 -":              "$.a - 3\n$.a 3 2\n$.a 2 1\n",
		"$.a.b[1]..c[-60] {a:1} [1,2]":           "$.a.b[1]..c[-60] [1,2] {a:1}\n",
	} {
		list := readEdits(t, text)
		back := impl.EditBack(list)
		if got := plainEdits(back); got != want || !sameEdits(back, turnedModel(list)) {
			t.Errorf("%q back is %q, not %q", text, got, want)
		}
		if twice := impl.EditBack(back); !sameEdits(twice, list) {
			t.Errorf("%q twice back is %q", text, plainEdits(twice))
		}
	}
	most := slices.Repeat(readEdits(t, "$.a 1 2\n$.b - 2"), impl.EditMost/2)
	wantEdits(t, "the most", turnedModel(most), impl.EditBack(most))
	wantRefused(t, "one more", keyed(nil), append(most, most[0]))
}

// wrongEdits is edits that are not ok, by what is wrong with them.
func wrongEdits() map[string]impl.Edit {
	wrong := map[string]impl.Edit{
		"all zero":                          {},
		"neither side":                      {Path: steps("a")},
		"neither side, at a place":          {Path: steps(0)},
		"neither side, with trees":          {Path: steps("a"), Was: num(1), Now: num(2)},
		"a Was without Had":                 {Path: steps("a"), Was: num(1), Now: num(2), Has: true},
		"a Was of no without Had":           {Path: steps("a"), Was: impl.Val{Kind: impl.ValNo}, Now: num(2), Has: true},
		"a Was of an empty row without Had": {Path: steps("a"), Was: row(), Now: num(2), Has: true},
		"a Now without Has":                 {Path: steps("a"), Was: num(1), Had: true, Now: num(2)},
		"a Now of no without Has":           {Path: steps("a"), Was: num(1), Had: true, Now: impl.Val{Kind: impl.ValNo}},
		"a Now of an empty map without Has": {Path: steps("a"), Was: num(1), Had: true, Now: keyed(nil)},
		"no steps without Had":              come(nil, num(1)),
		"no steps without Has":              gone(nil, num(1)),
		"a list of no steps without Has":    gone([]impl.Step{}, num(1)),
		"a place as the last, without Had":  come(steps(0), num(1)),
		"a place as the last, without Has":  gone(steps(0), num(1)),
		"a far place without Had":           come(steps("a", "b", 59), num(1)),
		"a far place without Has":           gone(steps("a", "b", -60), num(1)),
		"a place of nothing without Has":    gone(steps("a", 0), impl.Val{}),
	}
	for what, p := range wrongWays() {
		wrong["way: "+what] = both(p, num(1), num(2))
		wrong["way without Had: "+what] = come(p, num(2))
		wrong["way without Has: "+what] = gone(p, num(1))
	}
	for what, v := range treesThatAreNotOk() {
		wrong["Was: "+what] = both(steps("a"), v, num(1))
		wrong["Now: "+what] = both(steps("a"), num(1), v)
		wrong["both: "+what] = both(nil, v, v)
		wrong["Was without Had: "+what] = impl.Edit{Path: steps("a"), Was: v, Now: num(1), Has: true}
		wrong["Now without Has: "+what] = impl.Edit{Path: steps("a"), Was: num(1), Had: true, Now: v}
		wrong["gone: "+what] = gone(steps("a"), v)
		wrong["come: "+what] = come(steps("a"), v)
	}
	return wrong
}

// treesThatAreNotOk is trees past all kinds of bounds, by what is wrong with them.
func treesThatAreNotOk() map[string]impl.Val {
	wrong := wrongTrees()
	wrong["a great number"] = num(impl.ValMost + 1)
	wrong["a long text"] = str("abcdefghijklm")
	wrong["a wide row"] = wide(impl.ValSize)
	wrong["a wide map"] = keyed(wideKeys(impl.ValSize), wide(impl.ValSize).List...)
	wrong["a deep tree"] = rows(impl.ValDeep, num(1))
	wrong["a tree past all bounds"] = rows(100000, num(1))
	wrong["a row that holds itself"] = round(2)
	wrong["nothing with a number"] = impl.Val{N: 1}
	wrong["nothing with a tree"] = impl.Val{List: []impl.Val{{}}}
	return wrong
}

func TestEditOk(t *testing.T) {
	long := strings.Repeat("z", impl.ValLong)
	good := []impl.Edit{
		both(nil, num(1), num(2)), both([]impl.Step{}, impl.Val{}, impl.Val{}), both(nil, num(1), num(1)), both(steps("a"), num(1), impl.Val{}), both(steps(0), impl.Val{}, num(1)), both(steps(-60), num(1), num(2)), both(steps(59), num(1), num(2)),
		gone(steps("a"), num(1)), gone(steps("a"), impl.Val{}), come(steps("a"), num(1)), come(steps("a"), impl.Val{}), gone(steps(""), num(1)), come(steps(long), row()), gone(steps(0, "a"), num(1)), come(steps(-60, 59, ""), num(1)), come(steps(0, 0, 0, 0, 0, "a"), wide(59)), both(steps("a", "a", "a", "a", "a", 0), wide(59), rows(5, num(1))),
		{Path: steps("a"), Was: impl.Val{Keys: []string{}, List: []impl.Val{}}, Now: num(1), Has: true},
	}
	if !impl.EditOk(nil) || !impl.EditOk([]impl.Edit{}) || !impl.EditOk(good) {
		t.Error("not ok")
	}
	for _, e := range good {
		if !impl.EditOk([]impl.Edit{e}) {
			t.Errorf("not ok: %v", e)
		}
		for many := impl.EditMost - 1; many < impl.EditMost+3; many++ {
			if got := impl.EditOk(slices.Repeat([]impl.Edit{e}, many)); got != (many <= impl.EditMost) {
				t.Errorf("%d edits: ok %v", many, got)
			}
		}
	}
	wantRefused(t, "very many", num(1), slices.Repeat(good[2:3], 100000))
	for what, e := range wrongEdits() {
		wantRefused(t, what, keyed([]string{"a"}, num(1)), []impl.Edit{e})
		wantRefused(t, what, impl.Val{}, []impl.Edit{e})
		wantRefused(t, what+" at the end", num(1), append(slices.Clone(good), e))
		wantRefused(t, what+" ahead", num(1), append([]impl.Edit{e}, good...))
		wantRefused(t, what+" as the last of the most", num(1), append(slices.Repeat(good[2:3], impl.EditMost-1), e))
	}
}

func TestEditText(t *testing.T) {
	for _, text := range []string{
		"", "$ 1 2\n", "$.a - 1\n", "$.a 1 -\n", "$.a - null\n", "$.a null -\n", "$. '' -\n", "$[-60] [] {}\n", "$.a.b[1] {a:[1,'x'],b:null} [true,false]\n", "$.a 1 2\n$.b - 3\n$.a 2 -\n", "$.a 1 2\n$.a 1 2\n",
	} {
		if got := impl.EditText(readEdits(t, text)); got != text {
			t.Errorf("text %q, not %q", got, text)
		}
	}
	// Edits that are not ok are written too: ways that are none, and trees that are not ok, as the empty text.
	wrongWay, wrongTree := steps("A"), num(impl.ValMost+1)
	for _, c := range []struct {
		e    impl.Edit
		want string
	}{
		{impl.Edit{}, "$ - -\n"}, {impl.Edit{Path: steps(0)}, "$[0] - -\n"}, {impl.Edit{Path: steps("a"), Was: num(1), Now: num(2)}, "$.a - -\n"}, {come(nil, num(1)), "$ - 1\n"}, {gone(steps(0), num(1)), "$[0] 1 -\n"}, {impl.Edit{Path: steps("a"), Was: num(1), Now: num(2), Has: true}, "$.a - 2\n"}, {impl.Edit{Path: steps("a"), Was: num(1), Had: true, Now: num(2)}, "$.a 1 -\n"},
		{both(wrongWay, num(1), num(2)), " 1 2\n"}, {gone(wrongWay, num(1)), " 1 -\n"}, {both(steps("a"), wrongTree, num(2)), "$.a  2\n"}, {both(steps("a"), num(1), wrongTree), "$.a 1 \n"}, {both(wrongWay, wrongTree, wrongTree), "  \n"}, {impl.Edit{Path: wrongWay, Was: wrongTree, Now: wrongTree}, " - -\n"}, {come(steps("a"), wrongTree), "$.a - \n"},
	} {
		if got := impl.EditText([]impl.Edit{c.e}); got != c.want {
			t.Errorf("%v: text %q, not %q", c.e, got, c.want)
		}
		if got := impl.EditText([]impl.Edit{c.e, gone(steps("b"), num(7)), c.e}); got != c.want+"$.b 7 -\n"+c.want {
			t.Errorf("%v with another one: text %q", c.e, got)
		}
	}
	for what, e := range wrongEdits() {
		if got := impl.EditText([]impl.Edit{e}); strings.Count(got, "\n") != 1 || strings.Count(got, " ") != 2 || !strings.HasSuffix(got, "\n") {
			t.Errorf("%s: text %q", what, got)
		}
	}
	many := slices.Repeat(readEdits(t, "$.a 1 -"), impl.EditMost+1)
	if got := impl.EditText(many); got != strings.Repeat("$.a 1 -\n", impl.EditMost+1) {
		t.Errorf("text of one more than the most: %q", got)
	}
}

func TestEditOfWrongTrees(t *testing.T) {
	for what, v := range treesThatAreNotOk() {
		for _, outer := range []impl.Val{v, row(v), row(num(1), v), keyed([]string{"a", "b"}, num(1), v)} {
			for _, x := range []impl.Val{{}, num(1), row(num(1)), keyed([]string{"a"}, num(1)), outer} {
				if got := impl.EditOf(outer, x); len(got) > 0 {
					t.Errorf("%s: %d edits", what, len(got))
				}
				if got := impl.EditOf(x, outer); len(got) > 0 {
					t.Errorf("to %s: %d edits", what, len(got))
				}
			}
			for _, list := range [][]impl.Edit{nil, {}, {both(nil, num(1), num(2))}, {come(steps("c"), num(2))}, {both(steps("a"), num(1), num(2))}, {both(steps(0), num(1), num(2))}, {both(nil, outer, num(1))}, {gone(steps("b"), v)}} {
				got, ok := impl.EditDo(outer, list)
				wantPart(t, what, "", got, ok)
			}
		}
	}
}

// roomyEdits is edits in lists with spare room in which something lies.
func roomyEdits(list []impl.Edit) []impl.Edit {
	all := make([]impl.Edit, 0, len(list)+2)
	for _, e := range list {
		p := append(make([]impl.Step, 0, len(e.Path)+2), e.Path...)
		copy(p[len(p):cap(p)], steps("left", 77))
		e.Path, e.Was, e.Now = p, roomy(e.Was), roomy(e.Now)
		all = append(all, e)
	}
	copy(all[len(all):cap(all)], []impl.Edit{both(steps("left"), num(77), str("behind")), {Had: true}})
	return all
}

// spareEdits is a copy of edits, with all that lies behind the ends of their lists.
func spareEdits(list []impl.Edit) []impl.Edit {
	all := slices.Clone(list[:cap(list)])
	for i, e := range all {
		all[i].Path, all[i].Was, all[i].Now = slices.Clone(e.Path[:cap(e.Path)]), spare(e.Was), spare(e.Now)
	}
	return all
}

// treesOf is all trees of edits.
func treesOf(list ...[]impl.Edit) []impl.Val {
	var all []impl.Val
	for _, e := range slices.Concat(list...) {
		all = append(all, e.Was, e.Now)
	}
	return all
}

// apartEdits asks that no two lists of these edits and trees, spare room included, lie in the same memory.
func apartEdits(t *testing.T, what string, trees []impl.Val, lists ...[]impl.Edit) {
	t.Helper()
	apart(t, what, append(trees, treesOf(lists...)...)...)
	edits, places := map[*impl.Edit]bool{}, map[*impl.Step]bool{}
	for _, list := range lists {
		all := list[:cap(list)]
		for i := range all {
			if edits[&all[i]] {
				t.Fatalf("%s: an edit lies in two lists", what)
			}
			edits[&all[i]] = true
		}
		for _, e := range list {
			p := e.Path[:cap(e.Path)]
			for i := range p {
				if places[&p[i]] {
					t.Fatalf("%s: a step lies in two ways", what)
				}
				places[&p[i]] = true
			}
		}
	}
}

func TestEditWritesIntoNoArgument(t *testing.T) {
	d := dice(54)
	for _, a := range append(d.branches(1200), mapOf(0, 59, 0), wide(59)) {
		b := roomy(d.turnedTree(a))
		a := roomy(a)
		list := roomyEdits(d.nearEdits(a, b))
		beforeA, beforeB, before := spare(a), spare(b), spareEdits(list)
		what := plain(a) + " to " + plain(b)
		edits := impl.EditOf(a, b)
		back := impl.EditBack(list)
		got, _ := impl.EditDo(a, list)
		impl.EditOk(list)
		impl.EditText(list)
		turned, ok := impl.EditDo(a, edits)
		apartEdits(t, what, []impl.Val{a, b, got, turned}, list, edits, back)
		if !equal(spare(a), beforeA) || !equal(spare(b), beforeB) || !sameEdits(spareEdits(list), before) {
			t.Fatalf("%s was turned", what)
		}
		// What is done once more tells the same, whatever becomes of the first answer.
		lists(turned, func(keys []string) { fill(keys, "X") }, func(list []impl.Val) { fill(list, impl.Val{Kind: 99}) })
		if ok {
			again, ok := impl.EditDo(a, edits)
			wantPart(t, what, plain(b), again, ok)
		}
	}
}

func TestEditOfOneTreeTwice(t *testing.T) {
	v := roomy(read(t, "{a:[1,{b:2}],c:'x'}"))
	// One tree in several places of the arguments is not one in the answer.
	list := []impl.Edit{come(steps("d"), v), come(steps("e"), v), both(steps("d", "a", 0), num(1), num(9)), both(steps("a"), v.List[0], v)}
	before := spare(v)
	got, ok := impl.EditDo(v, list)
	wantPart(t, "a tree put into itself", "{a:{a:[1,{b:2}],c:'x'},c:'x',d:{a:[9,{b:2}],c:'x'},e:{a:[1,{b:2}],c:'x'}}", got, ok)
	apart(t, "a tree put into itself", v, got)
	back := impl.EditBack(list)
	apart(t, "back", append(treesOf(back), v, got)...)
	wantEdits(t, "back", turnedModel(list), back)
	same := impl.EditOf(row(v, v), row(num(1), keyed(nil)))
	apart(t, "edits of a tree that is there twice", append(treesOf(same), v)...)
	if !equal(spare(v), before) {
		t.Error("written into the tree")
	}
	// One way in several edits is not one in the answer.
	p := append(make([]impl.Step, 0, 5), steps("a", "b")...)
	ways := []impl.Edit{both(p, num(1), num(2)), both(p, num(2), num(3)), gone(p[:1], num(3))}
	apartEdits(t, "one way", nil, impl.EditBack(ways), impl.EditBack(ways), []impl.Edit{both(p, num(1), num(2))})
}

func TestEditKeepsNothing(t *testing.T) {
	d := dice(55)
	for _, a := range d.branches(400) {
		b := d.turnedTree(a)
		first := impl.EditOf(a, b)
		text := plainEdits(first)
		// Asked many times, as a map is gone through in another order each time.
		for range 5 {
			list := impl.EditOf(a, b)
			if got := plainEdits(list); got != text {
				t.Fatalf("%q, and %q the first time", got, text)
			}
			for _, e := range list {
				fill(e.Path[:cap(e.Path)], impl.Step{Key: "X", At: 99})
			}
			fill(list[:cap(list)], impl.Edit{})
		}
		if got := plainEdits(first); got != text {
			t.Fatalf("%q, and %q at first", got, text)
		}
	}
}
