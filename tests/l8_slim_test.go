package tests

import (
	"fmt"
	"slices"
	"strings"
	"testing"

	"loop.example/cribble/impl"
)

// wantShort asks for all four answers of a filter that is ok, as the models have them, and tells the shorter one.
func wantShort(t *testing.T, f impl.Filt) impl.Filt {
	t.Helper()
	text := plainFilt(f)
	short, want := impl.Slim(f), slimModel{map[[2]int]int{}}.of(f)
	if !equalFilt(short, want) {
		t.Fatalf("%s becomes %v, not %s", text, short, plainFilt(want))
	}
	if !impl.FiltOk(short) || !fitsFilt(short) || manyParts(short) > manyParts(f) || around(short) > around(f) {
		t.Fatalf("%s becomes %s, which is greater, or not ok", text, plainFilt(short))
	}
	if again := impl.Slim(short); !equalFilt(again, short) {
		t.Fatalf("%s becomes %s, and then %s", text, plainFilt(short), plainFilt(again))
	}
	if got := impl.SlimSure(f); got != sureModel(f) {
		t.Fatalf("%s is sure: %v", text, got)
	}
	if got := impl.SlimKeys(f); !slices.Equal(got, namesModel(f)) {
		t.Fatalf("%s names %q", text, got)
	}
	if got := impl.SlimTell(f); got != tellModel(f) {
		t.Fatalf("%s tells %d at most", text, got)
	}
	return short
}

// wantShorter asks what becomes of filters, by their texts: itself, where that is "*".
func wantShorter(t *testing.T, wants map[string]string) {
	t.Helper()
	for text, want := range wants {
		if want == "*" {
			want = text
		}
		if got := plainFilt(wantShort(t, readFilt(t, text))); got != want {
			t.Errorf("%s becomes %s, not %s", text, got, want)
		}
	}
}

func TestSlimByEachRule(t *testing.T) {
	wantShorter(t, map[string]string{
		"pipe . .a:": ".a:", "pipe .a: .": ".a:", "pipe none .a:": "none", "pipe bad .a:": "bad", "pipe . .": ".",
		"both none .a:": ".a:", "both .a: none": ".a:", "both bad .a:": "bad", "both none none": "none",
		"if none .a: .b:": "none", "if bad .a: .b:": "bad", "if =1 .a: .b:": ".a:", "if =null .a: .b:": ".b:",
		"add =1 =2": "=3", "less =1 =2": "=true", "same =1 =2": "=false", "add =1 ='a'": "bad",
		"try .": ".", "try not": "not", "try =1": "=1", "try none": "none", "else none .a:": ".a:", "else bad .a:": ".a:",
		// Two rules that both apply.
		"pipe . none": "none", "pipe . bad": "bad", "pipe none .": "none", "pipe bad .": "bad", "both none bad": "bad", "both bad none": "bad", "both none [0]": "[0]", "both [0] none": "[0]",
		// What is left may be of any kind, and as great as it was.
		"pipe . pipe .a: []": "pipe .a: []", "pipe add . =1 .": "add . =1", "both none if .a: .b: .c:": "if .a: .b: .c:", "both make:k .a: none": "make:k .a:", "if =0 turn .a: len row []": "turn .a: len", "if =false turn .a: len row []": "row []", "try less . =3": "less . =3", "else bad row []": "row []",
		// Kinds without kids, and kinds without rules.
		".": "*", "=1": "*", "=[1,{a:null}]": "*", ".a:": "*", ".:": "*", "[0]": "*", "[-60]": "*", "[]": "*", "len": "*", "keys": "*", "not": "*", "none": "*", "bad": "*",
		"row .": "*", "row none": "*", "row bad": "*", "row =1": "*", "make:k .": "*", "make:k none": "*", "make:k bad": "*", "make: =1": "*", "turn . .": "*", "turn none bad": "*", "turn . bad": "*", "turn .a: =1": "*", "turn none .": "*",
		// Where none applies.
		"pipe .a: .b:": "*", "both .a: .b:": "*", "if .a: .b: .c:": "*", "add .a: .b:": "*", "less . .": "*", "same . .": "*", "try .a:": "*", "try bad": "*", "else .a: .b:": "*", "both . .": "*", "if . . .": "*", "add . .": "*", "else . .": "*",
	})
}

// fewKids is kids of which rules speak, and others.
var fewKids = []string{".", "=1", "=null", "none", "bad", ".a:", "[]", "not"}

// wantGrid asks what becomes of a kind of two kids: one line for each first kid, in it a word for each second, both in the order of fewKids; 1 and 2 are its kids, * itself.
func wantGrid(t *testing.T, word string, lines ...string) {
	t.Helper()
	wants := map[string]string{}
	for i, line := range lines {
		for j, cell := range strings.Fields(line) {
			text := word + " " + fewKids[i] + " " + fewKids[j]
			wants[text] = cell
			if at := strings.Index("12", cell); at >= 0 {
				wants[text] = []string{fewKids[i], fewKids[j]}[at]
			}
		}
	}
	if len(wants) != len(fewKids)*len(fewKids) {
		t.Fatal("not all kids with all kids")
	}
	wantShorter(t, wants)
}

func TestSlimOfFewKids(t *testing.T) {
	wantGrid(t, "pipe",
		"2 2 2 2 2 2 2 2", "1 * * * * * * *", "1 * * * * * * *", "1 1 1 1 1 1 1 1", "1 1 1 1 1 1 1 1", "1 * * * * * * *", "1 * * * * * * *", "1 * * * * * * *")
	wantGrid(t, "both",
		"* * * 1 * * * *", "* * * 1 * * * *", "* * * 1 * * * *", "2 2 2 2 2 2 2 2", "1 1 1 1 1 1 1 1", "* * * 1 * * * *", "* * * 1 * * * *", "* * * 1 * * * *")
	wantGrid(t, "else",
		"* * * * * * * *", "* * * * * * * *", "* * * * * * * *", "2 2 2 2 2 2 2 2", "2 2 2 2 2 2 2 2", "* * * * * * * *", "* * * * * * * *", "* * * * * * * *")
	wantGrid(t, "add",
		"* * * * * * * *", "* =2 =1 * * * * *", "* =1 =null * * * * *", "* * * * * * * *", "* * * * * * * *", "* * * * * * * *", "* * * * * * * *", "* * * * * * * *")
	wantGrid(t, "less",
		"* * * * * * * *", "* =false =false * * * * *", "* =true =false * * * * *", "* * * * * * * *", "* * * * * * * *", "* * * * * * * *", "* * * * * * * *", "* * * * * * * *")
	wantGrid(t, "same",
		"* * * * * * * *", "* =true =false * * * * *", "* =false =true * * * * *", "* * * * * * * *", "* * * * * * * *", "* * * * * * * *", "* * * * * * * *", "* * * * * * * *")
	for i, want := range []string{".", "=1", "=null", "none", "*", "*", "*", "not"} {
		wantShorter(t, map[string]string{"try " + fewKids[i]: want, "row " + fewKids[i]: "*", "make:k " + fewKids[i]: "*", "turn . " + fewKids[i]: "*", "turn .a: " + fewKids[i]: "*"})
	}
	for i, first := range fewKids {
		for _, second := range fewKids {
			for _, third := range fewKids {
				// Of the first kids a choice of 1 is the second, one of nothing the third.
				want := []string{"*", second, third, "none", "bad", "*", "*", "*"}[i]
				wantShorter(t, map[string]string{"if " + first + " " + second + " " + third: want})
			}
		}
	}
}

func TestSlimOfSomethingBadAndOfChoicesOfNothing(t *testing.T) {
	wantShorter(t, map[string]string{
		// Something bad behind something else: that is told, or may be bad, or none, ahead of it.
		"both . bad": "*", "both =1 bad": "*", "both .a: bad": "*", "both bad bad": "bad", "pipe =1 bad": "*", "pipe .a: bad": "*", "pipe [] bad": "*", "pipe . bad": "bad", "both both . bad .a:": "*", "pipe both . bad .a:": "*", "both try bad .": "*", "pipe try bad .a:": "*",
		"if both . bad .a: .b:": "*", "if . bad bad": "*", "if .a: bad none": "*", "if =1 bad .": "bad", "if =null . bad": "bad", "else . bad": "*", "else none bad": "bad", "else both . bad .a:": "*", "else bad bad": "bad", "else try bad .": "*",
		"add bad =1": "*", "add =1 bad": "*", "add bad bad": "*", "less bad .": "*", "same . bad": "*", "row both . bad": "*", "make:k both . bad": "*", "try both . bad": "*", "try pipe .a: bad": "*", "try try bad": "try bad",
		// Nothing behind something else, which may be bad.
		"pipe =1 none": "*", "pipe .a: none": "*", "pipe [] none": "*", "pipe pipe .a: none .b:": "*", "add none =1": "*", "less =1 none": "*", "same none none": "*", "row none": "*", "make:k none": "*", "turn . none": "*",
		// A choice of nothing.
		"if none . .": "none", "if none bad bad": "none", "if pipe . none .a: .b:": "none", "if both none none . .": "none", "if . none none": "*", "if .a: none none": "*", "if =1 none .": "none", "if =null . none": "none", "if try none . .": "none", "if if none . . .a: .b:": "none", "if pipe .a: none . .": "*", "if else none none . .": "none",
		"else . none": "*", "else none none": "none", "else bad none": "none", "else pipe . none .a:": ".a:", "else try none .a:": ".a:", "else if none . . .a:": ".a:", "else pipe .a: none .": "*", "else =null .a:": "*", "else =1 .a:": "*", "else else none none .a:": ".a:",
	})
}

func TestSlimOfIfOfLit(t *testing.T) {
	for tree, on := range map[string]bool{"null": false, "false": false, "true": true, "0": true, "1": true, "-1": true, "''": true, "'a'": true, "[]": true, "[null]": true, "[false]": true, "{}": true, "{a:null}": true, "{:false}": true} {
		want := ".b:"
		if on {
			want = ".a:"
		}
		wantShorter(t, map[string]string{
			"if =" + tree + " .a: .b:": want, "row if =" + tree + " .a: .b:": "row " + want, "if pipe . =" + tree + " pipe .a: . both .b: none": want,
			// A choice by a literal is none by what tells one.
			"if row =" + tree + " .a: .b:": "*", "if else =" + tree + " . .a: .b:": "*",
		})
	}
	wantShorter(t, map[string]string{"if same =1 =1 .a: .b:": ".a:", "if same =1 =2 .a: .b:": ".b:", "if add =null =null .a: .b:": ".b:", "if less =2 =1 .a: .b:": ".b:", "if add =1 ='a' .a: .b:": "bad", "if if =1 =null =2 .a: .b:": ".b:"})
}

// edgeTrees is trees of each kind, at the bounds too.
func edgeTrees() []impl.Val {
	half := wideKeys(impl.ValSize / 2)
	rest := wideKeys(impl.ValSize)[impl.ValSize/2:]
	list := []impl.Val{
		{}, {Kind: impl.ValNo}, {Kind: impl.ValYes}, num(0), num(1), num(-7), num(impl.ValMost), num(-impl.ValMost), str(""), str("ab"), str("abcdefghijk"), str("abcdefghijkl"), str("l"),
		row(), row(num(1)), row(row(), num(2)), wide(29), wide(30), wide(59), rows(5, num(1)), rows(4, wide(54)), keyed(nil), keyed([]string{""}, num(1)), keyed([]string{"a"}, num(1)), keyed([]string{"a", "b"}, row(), num(2)),
		keyed(half, wide(30).List...), keyed(rest, wide(30).List...), keyed(rest[1:], wide(29).List...), keyed([]string{"b"}, rows(4, num(1))),
	}
	d := dice(81)
	return append(list, d.trees(60)...)
}

func TestSlimOfTwoLits(t *testing.T) {
	for _, a := range edgeTrees() {
		for _, b := range edgeTrees() {
			sum, can := addModel(a, b)
			want := filtOf(impl.FiltBad)
			if can && fits(sum) {
				want = lit(sum)
			}
			for kind, want := range map[int]impl.Filt{impl.FiltAdd: want, impl.FiltLess: lit(yes(orderModel(a, b) < 0)), impl.FiltSame: lit(yes(equal(a, b)))} {
				f := join(kind, lit(a), lit(b))
				if got := wantShort(t, f); !equalFilt(got, want) {
					t.Fatalf("%s becomes %s", plainFilt(f), plainFilt(got))
				}
			}
		}
	}
	wantShorter(t, map[string]string{
		"add =1000000 =0": "=1000000", "add =1000000 =1": "bad", "add =-1000000 =-1": "bad", "add =-1000000 =1000000": "=0", "add =999999 =1": "=1000000", "add ='' =''": "=''", "add ='abcdefghijk' ='l'": "='abcdefghijkl'", "add ='abcdefghijkl' ='m'": "bad", "add ='abcdefghijk' ='lm'": "bad",
		"add =" + rowText(30) + " =" + rowText(29): "=" + rowText(59), "add =" + rowText(30) + " =" + rowText(30): "bad", "add =" + rowText(59) + " =[]": "=" + rowText(59), "add =" + rowText(59) + " =[1]": "bad", "add =[[[[[1]]]]] =[2]": "=[[[[[1]]]],2]", "add =[[[[[1]]]]] =[[[[[1]]]]]": "=[[[[[1]]]],[[[[1]]]]]",
		"add ={a:1,b:2} ={b:3,c:4}": "={a:1,b:3,c:4}", "add ={} ={}": "={}", "add ={b:[[[[1]]]]} ={a:[[[[2]]]]}": "={a:[[[[2]]]],b:[[[[1]]]]}", "add =null =null": "=null", "add =null =false": "=false", "add =true =null": "=true", "add =true =true": "bad", "add =false =false": "bad", "add =1 ='a'": "bad", "add =1 =[1]": "bad", "add =[] ={}": "bad", "add =0 =false": "bad",
		"less =null =false": "=true", "less =1 =1": "=false", "less =2 =1": "=false", "less =[1] =[1,0]": "=true", "less ={b:0} ={a:1,b:1}": "=false", "less ='b' =3": "=false", "same =[1,{a:2}] =[1,{a:2}]": "=true", "same =[] ={}": "=false", "same =0 =''": "=false", "same =null =false": "=false",
		// Of what becomes a literal too, and of what does not.
		"add add =1 =2 =3": "=6", "add =3 add =1 =2": "=6", "add add =1 =2 add =3 =4": "=10", "less add =1 =2 =2": "=false", "same add =1 =2 pipe . =3": "=true", "same same =1 =1 =true": "=true", "add try =1 else none =2": "=3", "add if =1 =2 . both none =3": "=5",
		"add add =1 ='a' =3": "add bad =3", "add =3 add =1 ='a'": "add =3 bad", "less add =1000000 =1 =3": "less bad =3", "add row =1 =[2]": "*", "add =1 .": "*", "add . =1": "*", "same len =1": "*", "less =1 keys": "*", "add =1 both =2 =3": "*",
	})
}

func TestSlimOfKidsFirst(t *testing.T) {
	wantShorter(t, map[string]string{
		// A rule that applies only once a kid has become shorter.
		"pipe pipe . . .a:": ".a:", "pipe .a: pipe . .": ".a:", "pipe try . .a:": ".a:", "pipe .a: try .": ".a:", "pipe both none bad .a:": "bad", "pipe if none . . .a:": "none", "pipe else bad . .a:": ".a:", "pipe add =1 ='a' .a:": "bad", "pipe if =1 . bad .a:": ".a:",
		"both pipe none . .a:": ".a:", "both .a: pipe none .": ".a:", "both if bad . . .a:": "bad", "both try none .a:": ".a:", "both both none none .a:": ".a:", "if pipe . =1 .a: .b:": ".a:", "if try =null .a: .b:": ".b:", "if pipe bad . .a: .b:": "bad", "if both none =1 .a: .b:": ".a:",
		"try pipe . not": "not", "try add =1 =1": "=2", "try add =1 ='a'": "try bad", "try try .": ".", "try try .a:": "try .a:", "try try try bad": "try bad", "try pipe . .a:": "try .a:", "try else .a: try .b:": "else .a: try .b:", "try if =1 . .a:": ".", "try both none .": ".", "try if none bad bad": "none", "try if =1 .a: .": "try .a:", "try less =1 pipe . .": "less =1 .", "try pipe bad .": "try bad", "try both . bad": "*",
		"else pipe none . .a:": ".a:", "else both bad . .a:": ".a:", "else if none . . .a:": ".a:", "else else bad none .a:": ".a:", "else try bad .a:": "*", "else add ='a' =1 .a:": ".a:",
		// Rules that apply all the way up.
		"pipe pipe pipe pipe . . . . .": ".", "try try try try try try .": ".", "add add add add =1 =2 =3 =4 =5": "=15", "if if if =1 =2 =3 =null =5 .a: .b:": ".b:", "both none both none both none .a:": ".a:", "else bad else none else bad .a:": ".a:", "pipe . both none if =1 try not bad": "not",
		"row pipe . try add =1 both none =2": "row =3", "if add less =1 =2 =null pipe .a: . bad": ".a:",
	})
	for _, text := range []string{
		"make:k *", "row *", "try *", "turn . *", "turn * .", "turn .a: *",
		"pipe * .b:", "pipe .b: *", "both * .b:", "both .b: *", "if * .b: .c:", "if .b: * .c:", "if .b: .c: *", "add * .b:", "add .b: *", "less * =1", "less =1 *", "same * len", "same len *", "else * .b:", "else .b: *",
		// Some kids that become shorter, at once and further in.
		"pipe * *", "both row * make:k *", "turn pipe [] * row *", "else try * less * =1", "row if * row * try .b:",
	} {
		for _, kid := range []string{"pipe . .a:", "pipe .a: .", "both none .a:", "both .a: none", "if =1 .a: .b:", "pipe both none . .a:"} {
			wantShorter(t, map[string]string{strings.ReplaceAll(text, "*", kid): strings.ReplaceAll(text, "*", ".a:")})
		}
	}
}

func TestSlimOfTurn(t *testing.T) {
	wantShorter(t, map[string]string{
		// What becomes shorter, and only looks still.
		"turn pipe . .a: =1": "turn .a: =1", "turn both none [] len": "turn [] len", "turn both [0] none len": "turn [0] len", "turn if =1 .a: .b: .": "turn .a: .", "turn if =null .a: .b: .": "turn .b: .", "turn if none . . .": "turn none .", "turn pipe none .a: .": "turn none .", "turn pipe [] pipe . .a: .": "turn pipe [] .a: .", "turn if pipe . .a: . none not": "turn if .a: . none not", "turn if try . .a: .b: not": "turn if . .a: .b: not", "turn if add =1 ='a' . . .": "*", "turn if row pipe . . [] none .": "turn if row . [] none .", "turn both pipe . .a: .b: =1": "turn both .a: .b: =1",
		// Of which comes what does not only look: all of it stays, what might become shorter in it too.
		"turn if bad . . .": "*", "turn if bad pipe . .a: .b: .": "*", "turn pipe . if bad . . .": "*", "turn if bad . . pipe . =1": "turn if bad . . =1", "turn pipe if bad . . .a: .": "*", "turn both none if bad . . .": "*", "turn both if bad . . .a: .": "*", "turn pipe pipe . .a: if bad . . .": "*", "turn both pipe . .a: if bad . . .": "*", "turn if pipe . bad . . len": "*", "turn if pipe bad . . . len": "*", "turn if both bad . . . len": "*", "turn if if bad . . . . .": "*", "turn if else none bad . . .": "*", "turn if . if bad . . .a: .": "*", "turn if .a: .b: if bad . . .": "*", "turn pipe . pipe .a: if bad . . len": "*",
		// Bad only where it is not taken.
		"turn pipe none if bad . . .": "turn none .", "turn if =1 . if bad . . .": "turn . .", "turn if =null if bad . . .a: .": "turn .a: .", "turn if try bad . . .": "*", "turn if both . bad . . .": "*", "turn if pipe . try bad . . .": "turn if try bad . . .", "turn if =1 pipe . .a: if bad . . len": "turn .a: len", "turn if none . if bad . . .": "turn none .",
		// A turn in another filter, and one in a turn.
		"pipe . turn pipe . .a: .": "turn .a: .", "row turn if bad . . pipe . .": "row turn if bad . . .", "turn . turn pipe . .a: .": "turn . turn .a: .", "turn . turn if bad . . .": "*", "turn if turn pipe . .a: . . . .": "turn if turn .a: . . . .", "turn if turn if bad . . . pipe . .a: .b: .": "turn if turn if bad . . . .a: .b: .", "turn if turn if bad . . . . . .": "*", "turn pipe if turn pipe . . . . . if bad . . .": "*", "try turn pipe . . =1": "try turn . =1", "turn pipe . . =1": "turn . =1", "turn none =1": "*", "turn . .": "*",
	})
}

// allOfKids calls with each filter of a kind that is ok and whose kids are, in order, of these.
func allOfKids(kind int, from [][]impl.Filt, each func(impl.Filt)) {
	f := impl.Filt{Kind: kind}
	var add func()
	add = func() {
		at := len(f.Kids)
		if at < len(from) {
			for _, kid := range from[at] {
				f.Kids = append(f.Kids, kid)
				add()
				f.Kids = f.Kids[:at]
			}
		} else if turnsModel(f) {
			each(cloneFilt(f))
		}
	}
	add()
}

func TestSlimSure(t *testing.T) {
	bare := map[int]bool{impl.FiltId: true, impl.FiltLit: true, impl.FiltNone: true, impl.FiltNot: true}
	var sure, unsure []impl.Filt
	for kind := 1; kind <= 21; kind++ {
		if filtKinds[kind].kids > 0 {
			continue
		}
		wantShort(t, filtOf(kind))
		if impl.SlimSure(filtOf(kind)) != bare[kind] {
			t.Errorf("%s is sure: %v", plainFilt(filtOf(kind)), !bare[kind])
		}
		if bare[kind] {
			sure = append(sure, filtOf(kind))
		} else {
			unsure = append(unsure, filtOf(kind))
		}
	}
	isSure := func(f impl.Filt) bool {
		return slices.ContainsFunc(sure, func(g impl.Filt) bool { return g.Kind == f.Kind })
	}
	for kind := impl.FiltPipe; kind <= 21; kind++ {
		allOfKids(kind, slices.Repeat([][]impl.Filt{slices.Concat(sure, unsure)}, filtKinds[kind].kids), func(f impl.Filt) {
			wantShort(t, f)
			var want bool
			switch kind {
			case impl.FiltTry:
				want = true
			case impl.FiltElse:
				want = isSure(f.Kids[1])
			case impl.FiltPipe, impl.FiltBoth, impl.FiltLess, impl.FiltSame, impl.FiltIf:
				want = !slices.ContainsFunc(f.Kids, func(kid impl.Filt) bool { return !isSure(kid) })
			case impl.FiltAdd, impl.FiltRow, impl.FiltTurn, impl.FiltMake:
			default:
				return
			}
			if impl.SlimSure(f) != want {
				t.Errorf("%s is sure: %v", plainFilt(f), !want)
			}
		})
	}
	for text, want := range map[string]bool{
		".": true, "=1": true, "=[1,{a:null}]": true, "none": true, "not": true, "try bad": true, "try row .a:": true, "both . .": true, "both . .a:": false, "both .a: .": false, "pipe . not": true, "pipe len not": false, "pipe not len": false, "less . =1": true, "less .a: =1": false, "less =1 .a:": false, "same . try .a:": true, "same . .a:": false,
		"else .a: .": true, "else bad not": true, "else . .a:": false, "else .a: .b:": false, "if . . .": true, "if len . .": false, "if . len .": false, "if . . len": false, "if try len both . none else bad .": true, "if =1 . .a:": false, "add =1 =2": false, "add . .": false, "add =1 ='a'": false, "row .": false, "make:k .": false, "turn . .": false, "turn none .": false, "bad": false, "[]": false, ".a:": false, "[0]": false, "len": false, "keys": false,
		// Further in, and where it only becomes so once it is shorter.
		"pipe both . not if . try [] not": true, "pipe both . not if . try [] len": false, "both both both . . . bad": false, "both both both bad . . .": false, "pipe . pipe . pipe . .a:": false, "pipe . pipe . pipe . try .a:": true, "if =1 . bad": false, "both none bad": false, "pipe none bad": false, "else bad else bad else bad .": true, "else . else . else . bad": false, "try try bad": true, "both try bad try bad": true, "same less . . same not none": true, "same less . . same not bad": false, "row try .": false, "make:k try .": false,
	} {
		f := readFilt(t, text)
		wantShort(t, f)
		if impl.SlimSure(f) != want {
			t.Errorf("%s is sure: %v", text, !want)
		}
	}
}

func TestSlimKeys(t *testing.T) {
	for text, want := range map[string]string{
		// No keys: those of a tree are none.
		".": "", "[0]": "", "[]": "", "={a:1}": "", "='a'": "", "=['a']": "", "pipe ={a:1} ={b:{c:2}}": "", "keys": "", "none": "", "turn . ={a:1}": "", "pipe ={a:1} .b:": "b",
		".a:": "a", "make:a .": "a", "make:a .b:": "a b", "make:b .a:": "a b", "pipe .b: make:a .b:": "a b", "pipe .a: .a:": "a", "make:a .a:": "a", "make:a make:a make:a .": "a", "both .b: .a:": "a b", "both .a: .b:": "a b", "if .c: .b: .a:": "a b c", "if .b: .a: .b:": "a b",
		// An empty key, and keys of which one begins with another one.
		".:": "-", "make: .": "-", "pipe .: .a:": "- a", "pipe .a: .:": "- a", "both .: make: .:": "-", "both .ab: .a:": "a ab", "both .a: .ab:": "a ab", "if .aab: .aa: .a:": "a aa aab", "if .b: .abc: .ab:": "ab abc b", "both .abcdefghijkl: .abcdefghijk:": "abcdefghijk abcdefghijkl", "if .z: .zz: make:y .": "y z zz", "if .b: .aaaaaaaaaaaa: .ab:": "aaaaaaaaaaaa ab b",
		// In each kind, and deep.
		"add .b: .a:": "a b", "less .b: .a:": "a b", "same .b: .a:": "a b", "else .b: .a:": "a b", "row .a:": "a", "try .a:": "a", "turn .b: .a:": "a b", "turn pipe .c: .a: make:b .": "a b c", "turn if .c: .b: .a: .d:": "a b c d", "turn if make:e .c: .b: .a: .d:": "a b c d e", "row try row try row try .a:": "a", "pipe . pipe . pipe . pipe . pipe . pipe . .a:": "a", "pipe pipe pipe pipe pipe pipe .a: . . . . . .": "a",
		"if if .e: .d: .c: if .b: .a: .f: if .g: .h: .i:": "a b c d e f g h i", "both both both .h: .g: both .f: .e: both both .d: .c: both .b: .a:": "a b c d e f g h",
		// What is gone once it is shorter is named still.
		"pipe none .a:": "a", "if =1 .a: .b:": "a b", "else bad .a:": "a", "both bad .a:": "a",
	} {
		f := readFilt(t, text)
		wantShort(t, f)
		keys := impl.SlimKeys(f)
		for i, key := range keys {
			if key == "" {
				keys[i] = "-"
			}
		}
		if got := strings.Join(keys, " "); got != want {
			t.Errorf("%s names %s, not %s", text, got, want)
		}
	}
	// As many keys as a filter can name.
	f, want := keyOf("a"), []string{"a"}
	for i, key := range []string{"b", "c", "d", "e", "f", "g"} {
		f, want = join(impl.FiltBoth, keyOf(key), f), append(want, key)
		if i == 5 {
			f.Kids[0], want = makes(key, makes("h", makes("", keyOf(key+key)))), append([]string{""}, append(want, "gg", "h")...)
		}
	}
	wantShort(t, f)
	if got := impl.SlimKeys(f); !slices.Equal(got, want) || manyParts(f) != 16 {
		t.Errorf("%s names %q, not %q", plainFilt(f), got, want)
	}
}

func TestSlimTell(t *testing.T) {
	// Filters that tell -1, 0, 0, 1, 1, 2 and 3 at most.
	kids, many := []string{"[]", "none", "bad", ".", ".a:", "both . .", "both . both . ."}, []int{-1, 0, 0, 1, 1, 2, 3}
	want := func(text string, n int) {
		t.Helper()
		f := readFilt(t, text)
		wantShort(t, f)
		if got := impl.SlimTell(f); got != n {
			t.Errorf("%s tells %d at most, not %d", text, got, n)
		}
	}
	for i, a := range kids {
		want("row "+a, 1)
		want("try "+a, many[i])
		want("make:k "+a, many[i])
		want("turn . "+a, 1)
		want("turn .a: "+a, 1)
		if a != "bad" {
			want("turn "+a+" .", 1)
		}
		for j, b := range kids {
			sum, product, greater := many[i]+many[j], many[i]*many[j], max(many[i], many[j])
			if many[i] == -1 || many[j] == -1 {
				sum, product, greater = -1, -1, -1
			}
			want("both "+a+" "+b, sum)
			want("else "+a+" "+b, greater)
			for _, word := range []string{"pipe", "add", "less", "same"} {
				want(word+" "+a+" "+b, product)
			}
			for k, c := range kids {
				chosen := many[i] * max(many[j], many[k])
				if many[i] == -1 || many[j] == -1 || many[k] == -1 {
					chosen = -1
				}
				want("if "+a+" "+b+" "+c, chosen)
			}
		}
	}
	for text, n := range map[string]int{
		".": 1, "=1": 1, "=[1,2,3]": 1, ".a:": 1, "[0]": 1, "[]": -1, "len": 1, "keys": 1, "not": 1, "none": 0, "bad": 0, "row []": 1, "turn [] .": 1, "turn . []": 1, "row bad": 1, "turn none .": 1, "pipe none []": -1, "pipe [] none": -1, "both [] []": -1, "if none [] .": -1, "if none . []": -1, "else none []": -1, "try []": -1, "make:a []": -1, "pipe row [] row []": 1,
		"both . pipe both . . not": 3, "pipe both . . both . .": 4, "add both . . both . both . .": 6, "if both . . both . . none": 4, "if both . . none both . both . .": 6, "else both . . .": 2, "else . both . .": 2, "both both both . . . .": 4, "pipe pipe both . . both . . both . .": 8, "if if both . . both . . . both . . .": 8, "pipe row both . . both . .": 2, "try pipe both . . make:a both . .": 4,
		// As much as a filter of all its parts can tell.
		"pipe pipe both both . . . both both . . . both . .": 18, "add less both . both . . both . both . . try both . .": 18, "both both both . . both . . both both . . both . .": 8,
	} {
		want(text, n)
	}
}

// mostTold is how much a filter of so many parts can tell at most, as the document counts, by all the ways to put it together.
func mostTold(parts int) int {
	most := []int{0, 1}
	for n := 2; n <= parts; n++ {
		best := most[n-1]
		for a := 1; a < n-1; a++ {
			b := n - 1 - a
			best = max(best, most[a]+most[b], most[a]*most[b])
			for c := 1; c < b; c++ {
				best = max(best, most[a]*max(most[c], most[b-c]))
			}
		}
		most = append(most, best)
	}
	return most[parts]
}

// lean is a filter like one that was drawn, with more parts of which rules speak.
func (d *dice) lean(f impl.Filt) impl.Filt {
	f = d.tame(f)
	var turn func(*impl.Filt)
	turn = func(part *impl.Filt) {
		if len(part.Kids) == 0 && d.below(3) > 0 {
			*part = [...]impl.Filt{filtOf(impl.FiltId), filtOf(impl.FiltNone), filtOf(impl.FiltBad), lit(num(1)), lit(num(impl.ValMost)), lit(impl.Val{}), lit(row(num(2)))}[d.below(7)]
		}
		for at := range part.Kids {
			turn(&part.Kids[at])
		}
	}
	other := cloneFilt(f)
	turn(&other)
	if turnsModel(other) {
		return other
	}
	return f
}

// wantTheSame asks for promise 8 of a filter, of what it becomes, and of a tree, and tells the code of the filter.
func wantTheSame(t *testing.T, f, short impl.Filt, v impl.Val, fuel int) int {
	t.Helper()
	what := fmt.Sprintf("%s and %s of %s with %d", plainFilt(f), plainFilt(short), plain(v), fuel)
	list, code, left := wantRun(t, f, v, fuel)
	shortList, shortCode, shortLeft := wantRun(t, short, v, fuel)
	if shortLeft < left {
		t.Fatalf("%s: %d is left, and %d", what, left, shortLeft)
	}
	if code != impl.RunLong && (!equalTrees(list, shortList) || code != shortCode) {
		t.Fatalf("%s: %s, and %s", what, plainRun(list, code), plainRun(shortList, shortCode))
	}
	// What ran out of fuel had told the first of the same things.
	if len(shortList) < len(list) || !equalTrees(list, shortList[:len(list)]) {
		t.Fatalf("%s: %s, and %s", what, plainRun(list, code), plainRun(shortList, shortCode))
	}
	if code == impl.RunBad && impl.SlimSure(f) {
		t.Fatalf("%s is sure, and ends badly", what)
	}
	if most := impl.SlimTell(f); most != -1 && len(list) > most {
		t.Fatalf("%s tells %d, and not %d", what, len(list), most)
	}
	return code
}

func TestSlimTellsTheSame(t *testing.T) {
	d := dice(82)
	m := slimModel{map[[2]int]int{}}
	trees := d.fruits(30000)
	ended, shorter, sure, greatest := map[int]int{}, 0, 0, 0
	for i, f := range d.filters(len(trees)) {
		if f = d.lean(f); i%4 == 0 {
			f = d.tame(f)
		}
		m.of(f)
		short := wantShort(t, f)
		code := wantTheSame(t, f, short, trees[i], impl.RunFuel)
		wantTheSame(t, f, short, trees[i], d.below(20))
		wantTheSame(t, f, short, num(1), impl.RunFuel)
		ended[code]++
		if manyParts(short) < manyParts(f) {
			shorter++
		}
		if impl.SlimSure(f) && manyParts(f) > 2 {
			sure++
		}
		greatest = max(greatest, impl.SlimTell(f))
	}
	if ended[impl.RunFine] < 15000 || ended[impl.RunBad] < 6000 || shorter < 5000 || sure < 3000 || greatest < 8 || greatest > mostTold(16) || mostTold(16) != 18 {
		t.Errorf("%v, %d became shorter, %d were sure, one tells %d", ended, shorter, sure, greatest)
	}
	for kind, rules := range map[int]int{impl.FiltPipe: 3, impl.FiltBoth: 3, impl.FiltIf: 3, impl.FiltAdd: 2, impl.FiltLess: 1, impl.FiltSame: 1, impl.FiltTry: 1, impl.FiltElse: 1, impl.FiltTurn: 1} {
		for rule := 1; rule <= rules; rule++ {
			if m.seen[[2]int{kind, rule}] < 20 {
				t.Errorf("rule %d of kind %d was taken %d times", rule, kind, m.seen[[2]int{kind, rule}])
			}
		}
	}
}

// allFilters is all filters of so many parts, from 0 on, whose kinds without kids are of these.
func allFilters(parts int, leaves []impl.Filt) [][]impl.Filt {
	list := [][]impl.Filt{nil, leaves}
	for n := 2; n <= parts; n++ {
		var all []impl.Filt
		for kind := impl.FiltPipe; kind <= 21; kind++ {
			for _, sum := range allSums(n-1, filtKinds[kind].kids) {
				var from [][]impl.Filt
				for _, many := range sum {
					from = append(from, list[many])
				}
				allOfKids(kind, from, func(f impl.Filt) {
					if kind == impl.FiltMake {
						f.S = "k"
					}
					all = append(all, f)
				})
			}
		}
		list = append(list, all)
	}
	return list
}

// allSums is all ways to have a number by so many others, each at least 1; none of no others.
func allSums(n, many int) [][]int {
	if many == 0 {
		return nil
	}
	if many == 1 {
		return [][]int{{n}}
	}
	var all [][]int
	for first := 1; first < n; first++ {
		for _, others := range allSums(n-first, many-1) {
			all = append(all, append([]int{first}, others...))
		}
	}
	return all
}

func TestSlimOfAllSmallFilters(t *testing.T) {
	var leaves []impl.Filt
	for _, text := range []string{".", "=1", "=null", "none", "bad", ".a:", "[]"} {
		leaves = append(leaves, readFilt(t, text))
	}
	trees := []impl.Val{{}, num(3), read(t, "[1,null]"), read(t, "{a:{a:[2]}}")}
	n := 0
	for _, list := range allFilters(4, leaves) {
		for _, f := range list {
			short := wantShort(t, f)
			for _, v := range trees {
				for _, fuel := range []int{3, impl.RunFuel} {
					wantTheSame(t, f, short, v, fuel)
				}
			}
			n++
		}
	}
	if n < 3500 {
		t.Errorf("only %d", n)
	}
	// With fewer leaves, but more parts.
	n = 0
	for _, list := range allFilters(6, leaves[:2]) {
		for _, f := range list {
			wantShort(t, f)
			n++
		}
	}
	if n < 5000 {
		t.Errorf("only %d", n)
	}
}

func TestSlimWithAllFuel(t *testing.T) {
	for text, want := range map[string]string{
		hungry(1): hungry(0), hungry(2): hungry(0), hungry(3): hungry(0), hungry(4): hungry(0), strings.Replace(hungry(2), "=1", ".a:", 1): strings.Replace(hungry(1), "=1", ".a:", 1), "try []": "*", "else none []": "[]", "pipe . []": "[]", "both [] none": "[]", "try try []": "try []", "try pipe else [] . else [] .": "pipe else [] . else [] .",
	} {
		wantShorter(t, map[string]string{text: want})
		f := readFilt(t, text)
		short := impl.Slim(f)
		for _, v := range []impl.Val{num(5), wide(39), wide(40), wide(41), wide(59), {}} {
			for _, fuel := range []int{0, 1, 2, 3, 4, 5, 40, 41, 42, 43, 44, 45, 397, 398, 399, 400} {
				wantTheSame(t, f, short, v, fuel)
			}
		}
	}
	d := dice(83)
	for i, f := range d.filters(400) {
		f, v := d.lean(f), d.fruits(1)[0]
		if i%3 == 0 {
			v = wide(41)
		}
		short := impl.Slim(f)
		for fuel := range 40 {
			wantTheSame(t, f, short, v, fuel)
		}
	}
}

func TestSlimOfBounds(t *testing.T) {
	for _, f := range []impl.Filt{
		sized(16, lit(wide(59))), sized(15, filtOf(impl.FiltLen)), sized(16, filtOf(impl.FiltNone)), chain(6, filtOf(impl.FiltLen)), chain(6, lit(rows(5, num(1)))), tries(6, filtOf(impl.FiltId)), tries(6, filtOf(impl.FiltBad)), join(impl.FiltAdd, lit(wide(59)), lit(wide(59))), join(impl.FiltAdd, lit(wide(59)), lit(impl.Val{})), join(impl.FiltSame, lit(wide(59)), lit(wide(59))), filtOfBytes(t, 6000), filtOfBytes(t, 6600),
	} {
		short := wantShort(t, f)
		wantTheSame(t, f, short, wide(59), impl.RunFuel)
	}
	if got := impl.Slim(chain(6, filtOf(impl.FiltLen))); !equalFilt(got, filtOf(impl.FiltLen)) {
		t.Errorf("a deep filter becomes %v", got)
	}
}

// wantNoSlim asks for the answers of a filter that is not ok.
func wantNoSlim(t *testing.T, what string, f impl.Filt) {
	t.Helper()
	if got := impl.Slim(f); !equalFilt(got, impl.Filt{}) {
		t.Errorf("%s becomes %v", what, got)
	}
	if impl.SlimSure(f) {
		t.Errorf("%s is sure", what)
	}
	if got := impl.SlimKeys(f); len(got) != 0 {
		t.Errorf("%s names %q", what, got)
	}
	if got := impl.SlimTell(f); got != -1 {
		t.Errorf("%s tells %d at most", what, got)
	}
}

func TestSlimOfFiltersThatAreNotOk(t *testing.T) {
	wrong := wrongFilts()
	for kind := -1; kind <= 22; kind++ {
		for many := range 5 {
			f := join(kind, slices.Repeat([]impl.Filt{keyOf("a")}, many)...)
			f.S = "A"
			wrong[fmt.Sprintf("kind %d with %d kids and a wrong text", kind, many)] = f
			if kind < 1 || kind > 21 || filtKinds[kind].kids != many {
				f.S = ""
				wrong[fmt.Sprintf("kind %d with %d kids", kind, many)] = f
			}
		}
	}
	wrong["very many kids"] = join(impl.FiltBoth, make([]impl.Filt, 300000)...)
	wrong["a filter in a wrong order"] = join(impl.FiltAdd, lit(num(1)), lit(keyed([]string{"b", "a"}, num(1), num(2))))
	wrong["a sum of what is not ok"] = join(impl.FiltAdd, lit(num(impl.ValMost+1)), lit(num(-5)))
	// Bad only where a rule would drop it.
	for what, f := range wrongFilts() {
		if what == "too deep" || what == "too many parts" {
			continue
		}
		wrong["dropped by a pipe: "+what] = join(impl.FiltPipe, filtOf(impl.FiltNone), f)
		wrong["dropped by a both: "+what] = join(impl.FiltBoth, filtOf(impl.FiltBad), f)
		wrong["dropped by an if: "+what] = join(impl.FiltIf, lit(num(1)), filtOf(impl.FiltId), f)
		wrong["kept by an else: "+what] = join(impl.FiltElse, filtOf(impl.FiltNone), f)
	}
	// Ok only once it is shorter.
	wrong["too deep, but by rules"] = chain(7, filtOf(impl.FiltId))
	wrong["too many parts, but by rules"] = sized(17, filtOf(impl.FiltNone))
	wrong["a turn that would only look"] = join(impl.FiltTurn, join(impl.FiltPipe, filtOf(impl.FiltNone), filtOf(impl.FiltLen)), filtOf(impl.FiltId))
	for what, f := range wrong {
		wantNoSlim(t, what, f)
		wantNoSlim(t, what+" in a filter", join(impl.FiltTry, f))
	}
}

// slimFilters is filters, drawn and some in which much stays that is there twice.
func slimFilters(t *testing.T, d *dice) []impl.Filt {
	var list []impl.Filt
	for i, f := range d.filters(2000) {
		if i%2 == 0 {
			f = d.lean(f)
		}
		list = append(list, f)
	}
	for _, text := range []string{"=[1,{a:2}]", "pipe . =[1,{a:2}]", "add =[1,{a:2}] =[1,{a:2}]", "add =null =[1,{a:[2]}]", "add ={a:[1]} ={b:[2]}", "add ={a:[1]} =null", "if =[1] both =[2] =[2] =[3]", "both none pipe =[1] row =[2]", "try both =[1,{a:2}] =[1,{a:2}]", "else bad make:a =[1]", "turn if bad .a: .b: =[1,{a:2}]", "turn pipe . .a: pipe . =[1,{a:2}]", "both .a: make:a .b:", "turn if bad pipe .a: . both .b: .c: =[1]", "if =null . pipe [] =[1]"} {
		list = append(list, readFilt(t, text))
	}
	// One list in the place of several.
	kids := []impl.Filt{keyOf("a"), lit(row(num(1), num(2)))}
	pair := join(impl.FiltPipe, kids...)
	return append(list, join(impl.FiltBoth, pair, pair), join(impl.FiltIf, pair, join(impl.FiltBoth, kids...), pair), join(impl.FiltPipe, filtOf(impl.FiltId), join(impl.FiltBoth, pair, pair)), sized(17, lit(wide(3))), impl.Filt{Kind: 99, V: num(3), Kids: kids})
}

func TestSlimWritesIntoNoArgument(t *testing.T) {
	d := dice(84)
	for _, f := range slimFilters(t, &d) {
		f := roomyFilt(f)
		before := spareFilt(f)
		short, sure, keys, most := impl.Slim(f), impl.SlimSure(f), impl.SlimKeys(f), impl.SlimTell(f)
		if !equalFilt(spareFilt(f), before) {
			t.Fatalf("written into %v", before)
		}
		if !equalFilt(impl.Slim(f), short) || impl.SlimSure(f) != sure || !slices.Equal(impl.SlimKeys(f), keys) || impl.SlimTell(f) != most {
			t.Fatalf("%v is another one the second time", before)
		}
	}
}

func TestSlimTellsInNewMemory(t *testing.T) {
	d := dice(85)
	for _, f := range slimFilters(t, &d) {
		// Lists that stand in the place of several become several.
		apartFilts(t, "one list in the place of several", impl.Slim(f), impl.Slim(f))
		f = roomyFilt(f)
		before := spareFilt(f)
		short, again := impl.Slim(f), impl.Slim(f)
		apartFilts(t, "a shorter filter", short, again, f)
		keys, more := impl.SlimKeys(f), impl.SlimKeys(f)
		// Whatever becomes of one answer, what was given and the next are as they were.
		soil([]impl.Filt{short})
		fill(keys[:cap(keys)], "X")
		if !equalFilt(spareFilt(f), before) || !equalFilt(impl.Slim(f), again) || !slices.Equal(impl.SlimKeys(f), more) || slices.Contains(more[:cap(more)], "X") {
			t.Fatalf("%v lies in what it becomes", before)
		}
	}
}
