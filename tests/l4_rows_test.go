package tests

import (
	"cmp"
	"fmt"
	"math"
	"slices"
	"strings"
	"testing"

	"loop.example/cribble/impl"
)

// orderModel is the order of two trees, without the program.
func orderModel(a, b impl.Val) int {
	return cmp.Or(cmp.Compare(a.Kind, b.Kind), cmp.Compare(a.N, b.N), strings.Compare(a.S, b.S), slices.Compare(a.Keys, b.Keys), slices.CompareFunc(a.List, b.List, orderModel))
}

// sortModel is trees in order, without the program: each is put ahead of the first that comes behind it.
func sortModel(list []impl.Val) []impl.Val {
	var sorted []impl.Val
	for _, v := range list {
		at := 0
		for at < len(sorted) && orderModel(sorted[at], v) <= 0 {
			at++
		}
		sorted = slices.Insert(sorted, at, v)
	}
	return sorted
}

// onceModel is trees in order, each once, without the program.
func onceModel(list []impl.Val) []impl.Val {
	var once []impl.Val
	for _, v := range sortModel(list) {
		if !slices.ContainsFunc(once, func(had impl.Val) bool { return equal(had, v) }) {
			once = append(once, v)
		}
	}
	return once
}

// backModel is trees, the last one first, without the program.
func backModel(list []impl.Val) []impl.Val {
	var back []impl.Val
	for _, v := range list {
		back = slices.Insert(back, 0, v)
	}
	return back
}

// flatModel is trees with those of rows in the place of these, without the program.
func flatModel(list []impl.Val) []impl.Val {
	var flat []impl.Val
	for _, v := range list {
		if v.Kind == impl.ValRow {
			flat = append(flat, v.List...)
		} else {
			flat = append(flat, v)
		}
	}
	return flat
}

// sumModel is all trees together, without the program, and whether they can be.
func sumModel(list []impl.Val) (impl.Val, bool) {
	sum := impl.Val{}
	for _, v := range list {
		next, ok := addModel(sum, v)
		if !ok || !fits(next) {
			return impl.Val{}, false
		}
		sum = next
	}
	return sum, true
}

// inPiece says whether a place is from one place on and ahead of another one, without the program.
func inPiece(at, from, to, many int) bool {
	behind := from <= at
	if from < 0 {
		behind = from <= at-many
	}
	ahead := at < to
	if to < 0 {
		ahead = at-many < to
	}
	return behind && ahead
}

// cutModel is a piece of a row or a text, without the program.
func cutModel(v impl.Val, from, to int) impl.Val {
	piece := impl.Val{Kind: v.Kind}
	for at, part := range v.List {
		if inPiece(at, from, to, len(v.List)) {
			piece.List = append(piece.List, part)
		}
	}
	for at := range len(v.S) {
		if inPiece(at, from, to, len(v.S)) {
			piece.S += v.S[at : at+1]
		}
	}
	return piece
}

// byModel is the row of groups by a key, without the program, and whether it can be made.
func byModel(list []impl.Val, key string) (impl.Val, bool) {
	var ats []impl.Val
	for _, v := range list {
		if v.Kind != impl.ValMap && v.Kind != impl.ValNone {
			return impl.Val{}, false
		}
		ats = append(ats, getModel(v, key))
	}
	groups := row()
	for _, at := range onceModel(ats) {
		group := row()
		for _, v := range list {
			if equal(getModel(v, key), at) {
				group.List = append(group.List, v)
			}
		}
		groups.List = append(groups.List, group)
	}
	return groups, true
}

// pairsModel is the row of pairs of a map, without the program.
func pairsModel(v impl.Val) impl.Val {
	pairs := row()
	for i, key := range v.Keys {
		pairs.List = append(pairs.List, row(str(key), v.List[i]))
	}
	return pairs
}

// keysModel is the map of pairs, without the program, and whether they are pairs.
func keysModel(list []impl.Val) (impl.Val, bool) {
	v := keyed(nil)
	for _, pair := range list {
		if pair.Kind != impl.ValRow || len(pair.List) != 2 || pair.List[0].Kind != impl.ValStr {
			return impl.Val{}, false
		}
		v = putModel(v, pair.List[0].S, pair.List[1])
	}
	return v, true
}

// wantCan is wantModel of what may not be done at all.
func wantCan(t *testing.T, what string, want impl.Val, can bool, got impl.Val, ok bool) {
	t.Helper()
	if !can {
		wantPart(t, what, "", got, ok)
		return
	}
	wantModel(t, what, want, got, ok)
}

// rowOfTrees is a row of trees of few parts, some of them there several times; it has too many at times.
func (d *dice) rowOfTrees() impl.Val {
	v := row()
	for range d.below(9) {
		if len(v.List) > 0 && d.below(3) == 0 {
			v.List = append(v.List, clone(v.List[d.below(len(v.List))]))
			continue
		}
		room := 1 + d.below(9)
		v.List = append(v.List, d.tree(&room, 1+d.below(impl.ValDeep-1)))
	}
	return v
}

// rowOf is such a row of trees of one kind that have few parts.
func (d *dice) rowOf(kind int) impl.Val {
	v := row()
	for range d.below(7) {
		part := impl.Val{Kind: kind}
		switch kind {
		case impl.ValNum:
			part.N = d.below(9) - 4
		case impl.ValStr:
			part.S = d.text()
		case impl.ValMap:
			part.Keys = d.keys()
		}
		for i := 0; i < len(part.Keys) || kind == impl.ValRow && i < 2 && d.below(3) > 0; i++ {
			part.List = append(part.List, d.rowLeaf())
		}
		if d.below(9) == 0 {
			part = impl.Val{}
		}
		v.List = append(v.List, part)
	}
	return v
}

func (d *dice) rowLeaf() impl.Val {
	return [...]impl.Val{{}, {Kind: impl.ValYes}, num(1), num(2), str("a"), str(""), row(), row(num(1))}[d.below(8)]
}

// manyRows is rows of all kinds.
func (d *dice) manyRows(n int) []impl.Val {
	var list []impl.Val
	for i := range n {
		if i%2 == 0 {
			list = append(list, d.rowOfTrees())
		} else {
			list = append(list, d.rowOf(i/2%7))
		}
	}
	return list
}

func TestRowSort(t *testing.T) {
	for text, want := range map[string]string{
		"[]": "[]", "[1]": "[1]", "[null]": "[null]", "[[]]": "[[]]", "[2,1]": "[1,2]", "[1,2]": "[1,2]",
		"[1,2,3,4,5]": "[1,2,3,4,5]", "[5,4,3,2,1]": "[1,2,3,4,5]", "[7,7,7,7]": "[7,7,7,7]", "[3,1,2,3,1]": "[1,1,2,3,3]", "[2,1,4,3,6,5,0]": "[0,1,2,3,4,5,6]",
		"[-1,-10,0,10,9]":                      "[-10,-1,0,9,10]",
		"['b','','ab','a','ba']":               "['','a','ab','b','ba']",
		"[{},[],'',0,true,false,null]":         "[null,false,true,0,'',[],{}]",
		"[[2],[1,9],[],[1]]":                   "[[],[1],[1,9],[2]]",
		"[{b:1},{a:2},{a:1},{},{a:1,b:0}]":     "[{},{a:1},{a:2},{a:1,b:0},{b:1}]",
		"[[3,2,1],[2,1]]":                      "[[2,1],[3,2,1]]",
		"[{b:[2,1],c:3},{b:[1,2],c:4}]":        "[{b:[1,2],c:4},{b:[2,1],c:3}]",
		"[null,1,null,'a',null]":               "[null,null,null,1,'a']",
		"[true,null,false,true,null,false,'']": "[null,null,false,false,true,true,'']",
		"null":                                 "", "false": "", "true": "", "5": "", "'ba'": "", "{}": "", "{a:[2,1]}": "",
	} {
		got, ok := impl.RowSort(read(t, text))
		wantPart(t, "sort "+text, want, got, ok)
	}
}

func TestRowSortOfTheWidest(t *testing.T) {
	up := wide(impl.ValSize - 1)
	down, alike, mixed := row(backModel(up.List)...), row(), row()
	for i := range up.List {
		alike.List = append(alike.List, num(7))
		mixed.List = append(mixed.List, num(i*17%(impl.ValSize-1)))
	}
	for _, v := range []impl.Val{up, down, mixed} {
		got, ok := impl.RowSort(v)
		wantPart(t, "sort", plain(up), got, ok)
		got, ok = impl.RowOnce(v)
		wantPart(t, "once", plain(up), got, ok)
		got, ok = impl.RowLeast(v)
		wantPart(t, "least", "0", got, ok)
	}
	got, ok := impl.RowSort(alike)
	wantPart(t, "sort of all alike", plain(alike), got, ok)
	got, ok = impl.RowOnce(alike)
	wantPart(t, "once of all alike", "[7]", got, ok)
	got, ok = impl.RowBack(up)
	wantPart(t, "back", plain(down), got, ok)
}

func TestRowOnce(t *testing.T) {
	for text, want := range map[string]string{
		"[]": "[]", "[1]": "[1]", "[1,1]": "[1]", "[7,7,7,7]": "[7]", "[2,1,2,1]": "[1,2]", "[1,2,3]": "[1,2,3]", "[3,2,1]": "[1,2,3]", "[null,null]": "[null]",
		"[1,'a',1,'a',null]":                "[null,1,'a']",
		"[[1],[1],[1,1],[]]":                "[[],[1],[1,1]]",
		"[{a:1},{a:1},{a:2},{b:1}]":         "[{a:1},{a:2},{b:1}]",
		"[0,'',[],{},false,null,0]":         "[null,false,0,'',[],{}]",
		"[[2,1],[1,2],[2,1]]":               "[[1,2],[2,1]]",
		"[[1,1],[1,1]]":                     "[[1,1]]",
		"[{a:[1]},{a:[1]},{a:[]},{},{a:1}]": "[{},{a:1},{a:[]},{a:[1]}]",
		"null":                              "", "false": "", "true": "", "5": "", "'aa'": "", "{}": "", "{a:[1,1]}": "",
	} {
		got, ok := impl.RowOnce(read(t, text))
		wantPart(t, "once "+text, want, got, ok)
	}
}

func TestRowBack(t *testing.T) {
	for text, want := range map[string]string{
		"[]": "[]", "[1]": "[1]", "[1,2]": "[2,1]", "[1,2,3]": "[3,2,1]", "[[1,2],[3,4]]": "[[3,4],[1,2]]", "[{a:1,b:2},null]": "[null,{a:1,b:2}]", "[1,1,2]": "[2,1,1]", "[[]]": "[[]]",
		"null": "", "false": "", "true": "", "5": "", "'ab'": "", "{}": "", "{a:1,b:2}": "",
	} {
		got, ok := impl.RowBack(read(t, text))
		wantPart(t, "back "+text, want, got, ok)
	}
}

func TestRowFlat(t *testing.T) {
	for text, want := range map[string]string{
		"[]": "[]", "[[]]": "[]", "[[],[],[]]": "[]", "[1,2]": "[1,2]", "[[1],[2,3]]": "[1,2,3]", "[[1,2],3,[4]]": "[1,2,3,4]", "[[],1,[],2,[]]": "[1,2]", "[[3,1],[2]]": "[3,1,2]",
		"[[[1]]]": "[[1]]", "[[[]],[[]]]": "[[],[]]", "[[[1,2],3],[[[4]]]]": "[[1,2],3,[[4]]]", "[[1,[2,[3,[4]]]]]": "[1,[2,[3,[4]]]]",
		"[null,[null],{a:[1]},'a',[{a:[2]}],true]": "[null,null,{a:[1]},'a',{a:[2]},true]",
		"[{},[{}]]":  "[{},{}]",
		"[[[[[]]]]]": "[[[[]]]]",
		"null":       "", "false": "", "true": "", "5": "", "'a'": "", "{}": "", "{a:[[1]]}": "",
	} {
		got, ok := impl.RowFlat(read(t, text))
		wantPart(t, "flat "+text, want, got, ok)
	}
	got, ok := impl.RowFlat(row(wide(impl.ValSize - 2)))
	wantPart(t, "flat of a wide row", plain(wide(impl.ValSize-2)), got, ok)
	got, ok = impl.RowFlat(wide(impl.ValSize - 1))
	wantPart(t, "flat of the widest row", plain(wide(impl.ValSize-1)), got, ok)
	got, ok = impl.RowFlat(rows(impl.ValDeep-1, num(1)))
	wantPart(t, "flat of the deepest row", plain(rows(impl.ValDeep-2, num(1))), got, ok)
}

func TestRowSum(t *testing.T) {
	for text, want := range map[string]string{
		"[]": "null", "[null]": "null", "[null,null]": "null", "[5]": "5", "[1,2,3]": "6", "[1,-2,3,-4]": "-2", "[0]": "0", "[1,null,2]": "3", "[null,1,2]": "3", "[1,2,null]": "3",
		"['a']": "'a'", "['a','b','c']": "'abc'", "['c','','a']": "'ca'", "['']": "''", "['a',null,'b']": "'ab'",
		"[[1],[2,3]]": "[1,2,3]", "[[]]": "[]", "[[],[]]": "[]", "[[[1]],[],[[2]]]": "[[1],[2]]", "[[2],null,[1]]": "[2,1]",
		"[{a:1,b:1},{b:2,c:3}]": "{a:1,b:2,c:3}", "[{}]": "{}", "[{},null,{b:1},{a:2}]": "{a:2,b:1}", "[{a:1},{a:2},{a:null}]": "{a:null}", "[{a:[1]},{a:[2]}]": "{a:[2]}",
		"[true]": "true", "[false]": "false", "[null,true]": "true", "[true,null]": "true", "[null,false,null]": "false",
		"[true,true]": "", "[false,false]": "", "[true,false]": "", "[1,true]": "", "[true,1]": "", "[null,true,null,true]": "",
		"[1,'a']": "", "['a',1]": "", "[1,[2]]": "", "[[1],2]": "", "[{a:1},[1]]": "", "[[1],{a:1}]": "", "['a',{}]": "", "['a',[]]": "", "[1,2,'a']": "", "[1,'a',2]": "", "['a',1,2]": "", "[null,1,null,'a']": "",
		"[999999,1]": "1000000", "[1000000]": "1000000", "[1000000,0]": "1000000", "[1000000,1]": "", "[1000000,-1,1]": "1000000", "[-1000000,-1]": "", "[-999999,-1]": "-1000000",
		// What is too great on the way can not be done, even if the next one would mend it.
		"[1000000,1,-1]": "", "[-1000000,-1,1]": "", "[1000000,1000000,-1000000]": "", "[1000000,-1000000,1000000]": "1000000",
		"['abcdef','ghijkl']": "'abcdefghijkl'", "['abcdef','ghijkl','m']": "", "['abcdefghijkl','']": "'abcdefghijkl'", "['','abcdefghijkl','a']": "",
		"null": "", "false": "", "true": "", "5": "", "'a'": "", "{}": "", "{a:1,b:2}": "",
	} {
		got, ok := impl.RowSum(read(t, text))
		wantPart(t, "sum "+text, want, got, ok)
	}
	got, ok := impl.RowSum(row(wide(28), wide(29)))
	wantPart(t, "sum of wide rows", plain(row(append(wide(28).List, wide(29).List...)...)), got, ok)
	got, ok = impl.RowSum(rows(impl.ValDeep-1, num(1)))
	wantPart(t, "sum of a deep row", plain(rows(impl.ValDeep-2, num(1))), got, ok)
	// Numbers and texts of a row of the most trees.
	ones := row()
	for range impl.ValSize - 1 {
		ones.List = append(ones.List, num(1))
	}
	got, ok = impl.RowSum(ones)
	wantPart(t, "sum of ones", fmt.Sprint(impl.ValSize-1), got, ok)
}

func TestRowCut(t *testing.T) {
	for _, c := range []struct {
		tree     string
		from, to int
		want     string
	}{
		{"[1,2,3,4]", 0, 4, "[1,2,3,4]"}, {"[1,2,3,4]", 0, 0, "[]"}, {"[1,2,3,4]", 0, 1, "[1]"}, {"[1,2,3,4]", 1, 3, "[2,3]"}, {"[1,2,3,4]", 3, 4, "[4]"}, {"[1,2,3,4]", 4, 4, "[]"}, {"[1,2,3,4]", 2, 2, "[]"}, {"[1,2,3,4]", 3, 1, "[]"}, {"[1,2,3,4]", 4, 0, "[]"},
		{"[1,2,3,4]", 0, 5, "[1,2,3,4]"}, {"[1,2,3,4]", 5, 9, "[]"}, {"[1,2,3,4]", 9, 5, "[]"}, {"[1,2,3,4]", 4, 9, "[]"}, {"[1,2,3,4]", 2, 99, "[3,4]"}, {"[1,2,3,4]", 99, 2, "[]"},
		{"[1,2,3,4]", -4, 4, "[1,2,3,4]"}, {"[1,2,3,4]", -1, 4, "[4]"}, {"[1,2,3,4]", -3, -1, "[2,3]"}, {"[1,2,3,4]", 0, -1, "[1,2,3]"}, {"[1,2,3,4]", 0, -4, "[]"}, {"[1,2,3,4]", 1, -1, "[2,3]"}, {"[1,2,3,4]", 2, -2, "[]"}, {"[1,2,3,4]", 3, -2, "[]"}, {"[1,2,3,4]", -1, -3, "[]"}, {"[1,2,3,4]", -2, 0, "[]"}, {"[1,2,3,4]", -1, 0, "[]"},
		{"[1,2,3,4]", -5, 2, "[1,2]"}, {"[1,2,3,4]", -99, 2, "[1,2]"}, {"[1,2,3,4]", -99, -3, "[1]"}, {"[1,2,3,4]", 0, -5, "[]"}, {"[1,2,3,4]", -99, -98, "[]"}, {"[1,2,3,4]", -99, 99, "[1,2,3,4]"}, {"[1,2,3,4]", -5, -4, "[]"}, {"[1,2,3,4]", -5, -3, "[1]"},
		{"[1,2,3,4]", math.MinInt, math.MaxInt, "[1,2,3,4]"}, {"[1,2,3,4]", math.MaxInt, math.MinInt, "[]"}, {"[1,2,3,4]", math.MaxInt, math.MaxInt, "[]"}, {"[1,2,3,4]", math.MinInt, math.MinInt, "[]"}, {"[1,2,3,4]", 1, math.MaxInt, "[2,3,4]"}, {"[1,2,3,4]", math.MinInt, 1, "[1]"}, {"[1,2,3,4]", math.MinInt, -1, "[1,2,3]"}, {"[1,2,3,4]", math.MinInt + 1, math.MaxInt - 1, "[1,2,3,4]"},
		{"[]", 0, 0, "[]"}, {"[]", 0, 1, "[]"}, {"[]", -1, 1, "[]"}, {"[]", 1, -1, "[]"}, {"[]", math.MinInt, math.MaxInt, "[]"}, {"[[1,2],{a:3}]", 1, 2, "[{a:3}]"}, {"[[1,2],{a:3}]", 0, 1, "[[1,2]]"}, {"[null]", 0, 1, "[null]"},
		{"'abc'", 0, 3, "'abc'"}, {"'abc'", 1, 2, "'b'"}, {"'abc'", -2, 99, "'bc'"}, {"'abc'", 0, -1, "'ab'"}, {"'abc'", 2, 1, "''"}, {"'abc'", 1, 1, "''"}, {"'abc'", 3, 3, "''"}, {"'abc'", 99, 100, "''"}, {"'abc'", -99, 1, "'a'"}, {"'abc'", math.MinInt, math.MaxInt, "'abc'"}, {"'abc'", math.MaxInt, math.MinInt, "''"}, {"'abc'", -1, 0, "''"},
		{"''", 0, 0, "''"}, {"''", 0, 5, "''"}, {"''", -5, 5, "''"}, {"''", 5, -5, "''"}, {"'abcdefghijkl'", 0, 12, "'abcdefghijkl'"}, {"'abcdefghijkl'", -12, -11, "'a'"}, {"'abcdefghijkl'", 11, 13, "'l'"},
		{"null", 0, 0, ""}, {"null", 0, 1, ""}, {"false", 0, 1, ""}, {"true", 0, 1, ""}, {"5", 0, 1, ""}, {"12345", 1, 3, ""}, {"{}", 0, 0, ""}, {"{a:1}", 0, 1, ""}, {"{a:[1,2]}", 0, 1, ""},
	} {
		got, ok := impl.RowCut(read(t, c.tree), c.from, c.to)
		wantPart(t, fmt.Sprint("cut ", c.tree, " ", c.from, " ", c.to), c.want, got, ok)
	}
}

func TestRowCutAtAllPlaces(t *testing.T) {
	for _, v := range []impl.Val{row(), wide(1), wide(5), row(row(num(1), num(2)), str("a"), keyed([]string{"a"}, num(1))), str(""), str("a"), str("abcde")} {
		many := len(v.List) + len(v.S)
		for from := -many - 2; from <= many+2; from++ {
			for to := -many - 2; to <= many+2; to++ {
				got, ok := impl.RowCut(v, from, to)
				wantModel(t, fmt.Sprint("cut ", plain(v), " ", from, " ", to), cutModel(v, from, to), got, ok)
			}
		}
	}
	most := wide(impl.ValSize - 1)
	for _, ends := range [][2]int{{0, impl.ValSize}, {0, impl.ValSize - 2}, {-impl.ValSize, impl.ValSize - 1}, {-impl.ValSize + 1, -1}, {impl.ValSize - 2, impl.ValSize}, {impl.ValSize - 1, impl.ValSize}} {
		got, ok := impl.RowCut(most, ends[0], ends[1])
		wantModel(t, fmt.Sprint("cut ", ends), cutModel(most, ends[0], ends[1]), got, ok)
	}
}

func TestRowHas(t *testing.T) {
	for _, c := range []struct {
		tree, x string
		has, ok bool
	}{
		{"[1,2,3]", "1", true, true}, {"[1,2,3]", "2", true, true}, {"[1,2,3]", "3", true, true}, {"[1,2,3]", "4", false, true}, {"[1,2,3]", "'a'", false, true}, {"[1,2,3]", "null", false, true},
		{"[]", "1", false, true}, {"[]", "null", false, true}, {"[]", "[]", false, true}, {"[null]", "null", true, true}, {"[0,'',[],{},false]", "null", false, true}, {"[null,'',[],{},false]", "0", false, true},
		{"[[1,2],3]", "[1,2]", true, true}, {"[[1,2],3]", "[2,1]", false, true}, {"[[1,2],3]", "1", false, true}, {"[[1,2],3]", "[1]", false, true}, {"[[1,2],3]", "[[1,2],3]", false, true}, {"[[]]", "[]", true, true}, {"[{}]", "[]", false, true}, {"[[]]", "{}", false, true},
		{"[{a:1,b:2}]", "{a:1,b:2}", true, true}, {"[{a:1,b:2}]", "{a:1}", false, true}, {"[{a:1,b:2}]", "{a:2,b:1}", false, true}, {"['a','ab']", "'ab'", true, true}, {"['a','ab']", "'b'", false, true}, {"['a','ab']", "''", false, true}, {"[true]", "true", true, true}, {"[true]", "false", false, true},
		{"null", "null", false, false}, {"false", "false", false, false}, {"true", "true", false, false}, {"5", "5", false, false}, {"'a'", "'a'", false, false}, {"{}", "{}", false, false}, {"{a:1}", "1", false, false}, {"{a:1}", "'a'", false, false},
	} {
		has, ok := impl.RowHas(read(t, c.tree), read(t, c.x))
		if has != c.has || ok != c.ok {
			t.Errorf("%s has %s: %v, %v", c.tree, c.x, has, ok)
		}
	}
}

func TestRowLeast(t *testing.T) {
	for text, want := range map[string]string{
		"[]": "null", "[1]": "1", "[null]": "null", "[3,1,2]": "1", "[1,2,3]": "1", "[3,2,1]": "1", "[2,2]": "2", "[1,null,'a']": "null", "[0,-5,5]": "-5", "['b','a','ab']": "'a'", "['b','']": "''",
		"[[2],[1,9],[1]]": "[1]", "[{b:1},{a:2}]": "{a:2}", "[{},[],'']": "''", "[{},[],5,true,false]": "false", "[[1],[]]": "[]", "[{a:2},{a:1,b:1}]": "{a:2}", "[{}]": "{}",
		"null": "", "false": "", "true": "", "5": "", "'ba'": "", "{}": "", "{a:1}": "",
	} {
		got, ok := impl.RowLeast(read(t, text))
		wantPart(t, "least "+text, want, got, ok)
	}
}

func TestRowBy(t *testing.T) {
	long := strings.Repeat("k", impl.ValLong)
	for _, c := range [][3]string{
		{"[]", "a", "[]"}, {"[]", "", "[]"}, {"[{a:1}]", "a", "[[{a:1}]]"}, {"[{a:2,b:1},{a:1},{a:2}]", "a", "[[{a:1}],[{a:2,b:1},{a:2}]]"},
		{"[{a:1,b:2},{a:1,b:1},{a:1,b:3}]", "a", "[[{a:1,b:2},{a:1,b:1},{a:1,b:3}]]"}, {"[{a:1,b:2},{a:1,b:1},{a:1,b:3}]", "b", "[[{a:1,b:1}],[{a:1,b:2}],[{a:1,b:3}]]"},
		{"[{a:10},{a:9},{a:-1}]", "a", "[[{a:-1}],[{a:9}],[{a:10}]]"}, {"[{a:'b'},{a:1},{a:[]},{a:{}},{a:null},{a:true},{a:false}]", "a", "[[{a:null}],[{a:false}],[{a:true}],[{a:1}],[{a:'b'}],[{a:[]}],[{a:{}}]]"},
		{"[{a:[1,2]},{a:[1]},{a:[1,2],b:0}]", "a", "[[{a:[1]}],[{a:[1,2]},{a:[1,2],b:0}]]"}, {"[{a:{b:1}},{a:{a:1}}]", "a", "[[{a:{a:1}}],[{a:{b:1}}]]"},
		{"[{a:'x'},{a:0},{a:''}]", "a", "[[{a:0}],[{a:''}],[{a:'x'}]]"},
		// What has not the key, has nothing there, as what has nothing there.
		{"[{a:1},{b:1},{}]", "a", "[[{b:1},{}],[{a:1}]]"}, {"[{},{a:null},null,{a:1},{b:2}]", "a", "[[{},{a:null},null,{b:2}],[{a:1}]]"}, {"[null]", "a", "[[null]]"}, {"[null,null]", "", "[[null,null]]"}, {"[{}]", "a", "[[{}]]"}, {"[{:1},{a:1}]", "", "[[{a:1}],[{:1}]]"},
		{"[{" + long + ":2},{" + long + ":1}]", long, "[[{" + long + ":1}],[{" + long + ":2}]]"}, {"[{a:1}]", long + "k", ""}, {"[]", long + "k", ""}, {"[{a:1}]", "A", ""}, {"[]", "A", ""}, {"[null]", "a b", ""}, {"[]", "\xff", ""}, {"[{a:1}]", "0", ""},
		{"[{a:1},false]", "a", ""}, {"[true,{a:1}]", "a", ""}, {"[{a:1},5]", "a", ""}, {"['a']", "a", ""}, {"[[]]", "a", ""}, {"[[{a:1}]]", "a", ""}, {"[{a:1},{a:1},[]]", "a", ""}, {"[null,1]", "a", ""},
		{"null", "a", ""}, {"false", "a", ""}, {"true", "a", ""}, {"5", "a", ""}, {"'a'", "a", ""}, {"{}", "a", ""}, {"{a:1}", "a", ""}, {"{a:[{a:1}]}", "a", ""},
	} {
		got, ok := impl.RowBy(read(t, c[0]), c[1])
		wantPart(t, "by "+c[0]+" "+c[1], c[2], got, ok)
	}
}

func TestRowByMeetsBounds(t *testing.T) {
	for size := impl.ValSize - 12; size < impl.ValSize; size++ {
		for _, groups := range []int{1, 2, 5, size / 2} {
			// Maps of two parts, of so many groups; nothing behind them, so that there are just so many parts.
			v := row()
			for i := range groups {
				v.List = append(v.List, keyed([]string{"a"}, num((groups-i)*3)))
			}
			for many(v) < size {
				v.List = append(v.List, impl.Val{})
			}
			want, can := byModel(v.List, "a")
			got, ok := impl.RowBy(v, "a")
			wantCan(t, "by "+plain(v), want, can, got, ok)
		}
	}
	for around := impl.ValDeep - 4; around <= impl.ValDeep-2; around++ {
		v := row(keyed([]string{"a"}, rows(around-1, num(1))))
		want, can := byModel(v.List, "a")
		got, ok := impl.RowBy(v, "a")
		wantCan(t, "by "+plain(v), want, can, got, ok)
		if ok != (around < impl.ValDeep-2) {
			t.Errorf("by %s: %v", plain(v), ok)
		}
	}
}

func TestRowPairs(t *testing.T) {
	for text, want := range map[string]string{
		"{}": "[]", "{a:1}": "[['a',1]]", "{a:1,b:2}": "[['a',1],['b',2]]", "{:1,a:null}": "[['',1],['a',null]]", "{a:[1,2],aa:{b:3},b:'c'}": "[['a',[1,2]],['aa',{b:3}],['b','c']]", "{abcdefghijkl:0}": "[['abcdefghijkl',0]]",
		"null": "", "false": "", "true": "", "5": "", "'a'": "", "[]": "", "[1]": "", "[['a',1]]": "", "[{a:1}]": "",
	} {
		got, ok := impl.RowPairs(read(t, text))
		wantPart(t, "pairs "+text, want, got, ok)
	}
	for size := range impl.ValSize {
		v := keyed(wideKeys(size), wide(size).List...)
		got, ok := impl.RowPairs(v)
		wantModel(t, "pairs of a wide map", pairsModel(v), got, ok)
		if ok != (1+3*size <= impl.ValSize) {
			t.Errorf("pairs of %d keys: %v", size, ok)
		}
		v = keyed([]string{"a"}, wide(min(size, impl.ValSize-2)))
		got, ok = impl.RowPairs(v)
		wantModel(t, "pairs of a wide tree", pairsModel(v), got, ok)
	}
	for around := range impl.ValDeep - 1 {
		v := keyed([]string{"a"}, rows(around, num(1)))
		got, ok := impl.RowPairs(v)
		wantModel(t, "pairs of a deep tree", pairsModel(v), got, ok)
		if ok != (around < impl.ValDeep-2) {
			t.Errorf("pairs of %s: %v", plain(v), ok)
		}
	}
}

func TestRowKeys(t *testing.T) {
	for text, want := range map[string]string{
		"[]": "{}", "[['a',1]]": "{a:1}", "[['b',1],['a',2],['b',3]]": "{a:2,b:3}", "[['a',1],['a',2],['a',3]]": "{a:3}", "[['a',1],['a',null]]": "{a:null}", "[['',1]]": "{:1}", "[['b',[1]],['aa',{c:2}],['a','x']]": "{a:'x',aa:{c:2},b:[1]}", "[['abcdefghijkl',[]]]": "{abcdefghijkl:[]}", "[['a',['b',1]]]": "{a:['b',1]}", "[['a','b']]": "{a:'b'}",
		"[[]]": "", "[['a']]": "", "[['a',1,2]]": "", "[['a',1],[]]": "", "[[],['a',1]]": "", "[['a',1],['b']]": "", "[['a',1],['b',2,3],['c',4]]": "",
		"[[1,'a']]": "", "[[null,1]]": "", "[[true,1]]": "", "[[false,1]]": "", "[[['a'],1]]": "", "[[{a:1},1]]": "", "[['a',1],[0,1]]": "", "[[0,1],['a',1]]": "",
		"['a',1]": "", "[1]": "", "[null]": "", "['ab']": "", "[{a:1,b:2}]": "", "[{a:1}]": "", "[true]": "", "[['a',1],null]": "", "[['a',1],{}]": "", "[{a:'a',b:1},['a',1]]": "",
		"null": "", "false": "", "true": "", "5": "", "'a'": "", "{}": "", "{a:['a',1]}": "",
	} {
		got, ok := impl.RowKeys(read(t, text))
		wantPart(t, "keys "+text, want, got, ok)
	}
}

// TestRowInOrderHasTheSameTrees is the first half of promise 4.
func TestRowInOrderHasTheSameTrees(t *testing.T) {
	d := dice(41)
	for _, v := range d.manyRows(4000) {
		what := plain(v)
		sorted, ok := impl.RowSort(v)
		wantCan(t, "sort "+what, row(sortModel(v.List)...), fits(v), sorted, ok)
		once, ok := impl.RowOnce(v)
		wantCan(t, "once "+what, row(onceModel(v.List)...), fits(v), once, ok)
		least, ok := impl.RowLeast(v)
		wantCan(t, "least "+what, append(sortModel(v.List), impl.Val{})[0], fits(v), least, ok)
		if !fits(v) {
			continue
		}
		again, ok := impl.RowSort(sorted)
		wantPart(t, "sort again "+what, plain(sorted), again, ok)
		for _, x := range append(d.trees(3), v.List...) {
			has, ok := impl.RowHas(v, x)
			want := slices.ContainsFunc(v.List, func(part impl.Val) bool { return equal(part, x) })
			if has != want || !ok {
				t.Fatalf("%s has %s: %v, %v", what, plain(x), has, ok)
			}
			if in, _ := impl.RowHas(sorted, x); in != has {
				t.Fatalf("in order, %s has %s: %v", what, plain(x), in)
			}
			if in, _ := impl.RowHas(once, x); in != has {
				t.Fatalf("once, %s has %s: %v", what, plain(x), in)
			}
		}
	}
}

// TestRowPutTogetherAgainIsWhatItWas is the second half of promise 4.
func TestRowPutTogetherAgainIsWhatItWas(t *testing.T) {
	d := dice(42)
	list := d.manyRows(2000)
	for range 200 {
		list = append(list, str(d.text()))
	}
	for _, v := range list {
		if !fits(v) {
			continue
		}
		what, at := plain(v), d.below(12)-5
		first, okFirst := impl.RowCut(v, 0, at)
		second, okSecond := impl.RowCut(v, at, impl.ValSize)
		whole, ok := impl.PartAdd(first, second)
		wantPart(t, fmt.Sprint(what, " cut at ", at), what, whole, ok && okFirst && okSecond)
		if v.Kind != impl.ValRow {
			continue
		}
		back, okBack := impl.RowBack(v)
		wantPart(t, "back "+what, plain(row(backModel(v.List)...)), back, okBack)
		twice, ok := impl.RowBack(back)
		wantPart(t, "back twice "+what, what, twice, ok)
		// Turned round, the pieces stand turned round behind each other.
		turnedFirst, _ := impl.RowBack(first)
		turnedSecond, _ := impl.RowBack(second)
		turned, ok := impl.PartAdd(turnedSecond, turnedFirst)
		wantPart(t, "pieces back "+what, plain(back), turned, ok)
		flat, ok := impl.RowFlat(row(first, second))
		wantCan(t, "flat pieces of "+what, v, fits(row(first, second)), flat, ok)
		sum, ok := impl.RowSum(row(first, second))
		wantCan(t, "sum of pieces of "+what, v, fits(row(first, second)), sum, ok)
	}
}

func TestRowPairsAndKeysAreEachOthersBack(t *testing.T) {
	d := dice(43)
	done := 0
	for _, v := range d.trees(6000) {
		pairs, ok := impl.RowPairs(v)
		wantCan(t, "pairs "+plain(v), pairsModel(v), v.Kind == impl.ValMap, pairs, ok)
		if !ok {
			continue
		}
		done++
		back, ok := impl.RowKeys(pairs)
		wantPart(t, "keys of pairs of "+plain(v), plain(v), back, ok)
		turned, _ := impl.RowBack(pairs)
		back, ok = impl.RowKeys(turned)
		wantPart(t, "keys of pairs turned of "+plain(v), plain(v), back, ok)
	}
	if done < 300 {
		t.Fatalf("only %d maps", done)
	}
}

// pairs is a row that is nearly one of pairs.
func (d *dice) pairs() impl.Val {
	v := row()
	for range d.below(6) {
		pair := row(str(d.text()), d.rowLeaf())
		switch d.below(30) {
		case 0:
			pair.List[0] = d.rowLeaf()
		case 1:
			pair.List = append(pair.List, d.rowLeaf())
		case 2:
			pair.List = pair.List[:1]
		case 3:
			pair.Kind, pair.Keys = impl.ValMap, []string{"a", "b"}
		}
		v.List = append(v.List, pair)
	}
	return v
}

func TestRowOfMany(t *testing.T) {
	d := dice(44)
	sums, groups := 0, 0
	list := d.manyRows(6000)
	for range 1000 {
		list = append(list, d.pairs())
	}
	for _, v := range list {
		what := plain(v)
		if !fits(v) {
			continue
		}
		flat, ok := impl.RowFlat(v)
		wantModel(t, "flat "+what, row(flatModel(v.List)...), flat, ok)
		want, can := sumModel(v.List)
		sum, ok := impl.RowSum(v)
		wantCan(t, "sum "+what, want, can, sum, ok)
		if ok && len(v.List) > 1 {
			sums++
		}
		for _, key := range []string{"a", "b", "", "c"} {
			want, can = byModel(v.List, key)
			by, ok := impl.RowBy(v, key)
			wantCan(t, "by "+what+" "+key, want, can, by, ok)
			if len(by.List) > 1 {
				groups++
			}
			// Put together again, the groups have the same trees.
			if ok {
				flat, _ = impl.RowFlat(by)
				sorted, okSorted := impl.RowSort(flat)
				wantPart(t, "groups of "+what, plain(row(sortModel(v.List)...)), sorted, okSorted)
			}
		}
		want, can = keysModel(v.List)
		keys, ok := impl.RowKeys(v)
		wantCan(t, "keys "+what, want, can, keys, ok)
		from, to := d.below(20)-10, d.below(20)-10
		piece, ok := impl.RowCut(v, from, to)
		wantModel(t, fmt.Sprint("cut ", what, " ", from, " ", to), cutModel(v, from, to), piece, ok)
	}
	if sums < 500 || groups < 300 {
		t.Fatalf("only %d sums and %d rows of groups", sums, groups)
	}
}

// rowAnswer is what one of the functions tells of a row.
type rowAnswer struct {
	name string
	v    impl.Val
	ok   bool
}

// allRows asks all functions of rows; what RowHas tells is yes or no.
func allRows(v impl.Val, x impl.Val, key string, from int, to int) []rowAnswer {
	var all []rowAnswer
	one := func(name string) func(impl.Val, bool) {
		return func(v impl.Val, ok bool) { all = append(all, rowAnswer{name, v, ok}) }
	}
	one("sort")(impl.RowSort(v))
	one("once")(impl.RowOnce(v))
	one("back")(impl.RowBack(v))
	one("flat")(impl.RowFlat(v))
	one("sum")(impl.RowSum(v))
	one("cut")(impl.RowCut(v, from, to))
	one("least")(impl.RowLeast(v))
	one("by")(impl.RowBy(v, key))
	one("pairs")(impl.RowPairs(v))
	one("keys")(impl.RowKeys(v))
	has, ok := impl.RowHas(v, x)
	if has {
		return append(all, rowAnswer{"has", impl.Val{Kind: impl.ValYes}, ok})
	}
	return append(all, rowAnswer{"has", impl.Val{}, ok})
}

func TestRowOfNothing(t *testing.T) {
	want := map[string]string{"sort": "[]", "once": "[]", "back": "[]", "flat": "[]", "sum": "null", "cut": "[]", "least": "null", "by": "[]", "pairs": "", "keys": "{}", "has": "null"}
	for _, v := range []impl.Val{row(), {Kind: impl.ValRow, Keys: []string{}, List: []impl.Val{}}, {Kind: impl.ValRow, List: wide(3).List[:0]}} {
		for _, a := range allRows(v, num(0), "a", 0, 3) {
			wantPart(t, a.name+" of a row of nothing", want[a.name], a.v, a.ok)
		}
	}
}

func TestRowOfWhatIsNoRow(t *testing.T) {
	for _, text := range append([]string{"{}", "{a:[1]}"}, leaves...) {
		for _, a := range allRows(read(t, text), num(0), "a", 0, 3) {
			if a.name == "pairs" && text[0] == '{' || a.name == "cut" && text[0] == '\'' {
				continue
			}
			wantPart(t, a.name+" of "+text, "", a.v, a.ok)
		}
	}
}

func TestRowOfWrongTrees(t *testing.T) {
	wrong := wrongTrees()
	wrong["a great number"] = num(impl.ValMost + 1)
	wrong["a long text"] = str("abcdefghijklm")
	wrong["a wide row"] = wide(impl.ValSize)
	wrong["a wide map"] = keyed(wideKeys(impl.ValSize), wide(impl.ValSize).List...)
	wrong["a deep tree"] = rows(impl.ValDeep, num(1))
	wrong["a tree past all bounds"] = rows(100000, num(1))
	wrong["a row that holds itself"] = round(2)
	for what, v := range wrong {
		for _, outer := range []impl.Val{v, row(v), row(num(1), v), row(v, v), row(row(str("a"), v)), row(keyed([]string{"a"}, v)), keyed([]string{"a", "b"}, num(1), v)} {
			for _, a := range append(allRows(outer, num(1), "a", 0, 1), allRows(outer, impl.Val{}, "", 0, 0)...) {
				wantPart(t, a.name+" of "+what, "", a.v, a.ok)
			}
			for _, text := range []string{"[]", "[1]", "[null,'a']", "null"} {
				if has, ok := impl.RowHas(read(t, text), outer); has || ok {
					t.Errorf("%s has %s: %v, %v", text, what, has, ok)
				}
			}
			if has, ok := impl.RowHas(row(outer), outer); has || ok {
				t.Errorf("a row of %s has it: %v, %v", what, has, ok)
			}
		}
	}
}

func TestRowWritesIntoNoArgument(t *testing.T) {
	d := dice(45)
	list := append(d.manyRows(900), d.trees(400)...)
	for range 200 {
		list = append(list, d.pairs())
	}
	list = append(list, keyed([]string{"b", "a"}, num(1), num(2)), wide(impl.ValSize), row(num(2), keyed([]string{"b", "a"}, num(1), num(2)), num(1)))
	for i, v := range list {
		v, x := roomy(v), roomy(list[(i*7+3)%len(list)])
		beforeV, beforeX := spare(v), spare(x)
		for _, ends := range [][2]int{{0, 99}, {1, -1}, {0, 1}, {2, 1}} {
			for _, a := range allRows(v, x, "a", ends[0], ends[1]) {
				apart(t, a.name, v, x, a.v)
			}
		}
		if len(v.List) > 0 {
			allRows(v, v.List[len(v.List)-1], "", 0, 1)
		}
		if !equal(spare(v), beforeV) || !equal(spare(x), beforeX) {
			t.Fatalf("written into %v or %v", beforeV, beforeX)
		}
	}
}

func TestRowKeepsNothing(t *testing.T) {
	d := dice(46)
	for _, v := range d.manyRows(300) {
		first := allRows(v, num(1), "a", 0, 2)
		var before []string
		for _, a := range first {
			before = append(before, plain(a.v))
			lists(a.v, func(keys []string) { fill(keys, "X") }, func(list []impl.Val) { fill(list, impl.Val{Kind: 99}) })
		}
		// Asked many times, as a map is gone through in another order each time.
		for range 4 {
			for j, a := range allRows(v, num(1), "a", 0, 2) {
				if got := plain(a.v); got != before[j] || a.ok != first[j].ok {
					t.Fatalf("%s tells %s, and told %s", a.name, got, before[j])
				}
			}
		}
	}
}
