package tests

import (
	"fmt"
	"math"
	"slices"
	"strconv"
	"strings"
	"testing"

	"loop.example/cribble/impl"
)

// shelfWords are the words of the codes.
var shelfWords = [...]string{"fine", "none", "full", "bad", "long", "form"}

// plainShelf writes a shelf: askers with "; " between, each a name, Most, Fuel, and each tree by its name.
func plainShelf(s impl.Shelf) string {
	var askers []string
	for _, a := range s.Askers {
		text := fmt.Sprintf("%s %d %d", a.Name, a.Most, a.Fuel)
		for _, kept := range a.Trees {
			text += " " + kept.Name + "=" + plain(kept.V)
		}
		askers = append(askers, text)
	}
	return strings.Join(askers, "; ")
}

func readInt(t *testing.T, word string) int {
	t.Helper()
	n, err := strconv.Atoi(word)
	if err != nil {
		t.Fatal(err)
	}
	return n
}

// readName is a name; "-" is none.
func readName(word string) string { return strings.TrimPrefix(word, "-") }

// readShelf is the shelf of which plainShelf writes this.
func readShelf(t *testing.T, text string) impl.Shelf {
	t.Helper()
	var s impl.Shelf
	if text == "" {
		return s
	}
	for _, asker := range strings.Split(text, "; ") {
		words := strings.Fields(asker)
		a := impl.Asker{Name: readName(words[0]), Most: readInt(t, words[1]), Fuel: readInt(t, words[2])}
		for _, word := range words[3:] {
			name, tree, _ := strings.Cut(word, "=")
			a.Trees = append(a.Trees, impl.Kept{Name: readName(name), V: read(t, tree)})
		}
		s.Askers = append(s.Askers, a)
	}
	return s
}

// readCall is the call of a text: what is done, names, and numbers, a tree or a filter.
func readCall(t *testing.T, text string) shelfCall {
	t.Helper()
	words := strings.Fields(text)
	c := shelfCall{do: words[0], who: readName(words[1])}
	if c.do == "join" {
		c.most, c.fuel = readInt(t, words[2]), readInt(t, words[3])
		return c
	}
	if len(words) > 2 {
		c.name = readName(words[2])
	}
	switch c.do {
	case "put":
		c.v = read(t, words[3])
	case "ask", "turn":
		c.f = readFilt(t, strings.Join(words[3:], " "))
	}
	return c
}

// plainCall writes a call, but for filters that are not ok.
func plainCall(c shelfCall) string {
	text := c.do + " " + c.who + " " + c.name
	switch {
	case c.do == "join":
		text += fmt.Sprint(c.most, " ", c.fuel)
	case c.do == "put":
		text += " " + plain(c.v)
	case c.noFilt:
		text += " no filter"
	case c.do == "ask" || c.do == "turn":
		text += " " + plainFilt(c.f)
	}
	return text
}

// plainShelfTold writes what a call answers, but for the shelf: what is told, and the word of the code, or a number.
func plainShelfTold(c shelfCall, told shelfTold) string {
	if c.do == "used" {
		return strconv.Itoa(told.code)
	}
	var words []string
	for _, v := range told.list {
		words = append(words, plain(v))
	}
	if c.do == "get" && told.code != impl.ShelfFine {
		words = nil
	}
	return strings.Join(append(words, shelfWords[told.code]), " ")
}

// wantCall asks for what the model has of a call, and for promise 9.
func wantCall(t *testing.T, s impl.Shelf, c shelfCall) shelfTold {
	t.Helper()
	what := plainCall(c) + " of " + plainShelf(s)
	told, want := c.told(s), c.model(s)
	if !equalShelfTold(told, want) {
		t.Fatalf("%s\ntells %v %v, and %s,\nnot %s, and %s", what, told.list, told.code, plainShelf(told.s), plainShelfTold(c, want), plainShelf(want.s))
	}
	if !impl.ShelfOk(told.s) || !shelfModel(told.s) {
		t.Fatalf("%s: %s is not ok", what, plainShelf(told.s))
	}
	wantNobodyTouched(t, what, s, c, told)
	if v, code := impl.ShelfGet(told.s, c.who, c.name); c.do == "put" && told.code == impl.ShelfFine && (code != impl.ShelfFine || !equal(v, c.v)) {
		t.Fatalf("%s: what is got is %v, %v", what, v, code)
	}
	return told
}

// wantNobodyTouched asks that a call turned nothing of others, nothing but fuel, if it could not be done, and that no fuel came.
func wantNobodyTouched(t *testing.T, what string, s impl.Shelf, c shelfCall, told shelfTold) {
	t.Helper()
	came := 0
	if c.do == "join" && told.code == impl.ShelfFine {
		came = 1
	}
	if len(told.s.Askers) != len(s.Askers)+came {
		t.Fatalf("%s: there are %d askers", what, len(told.s.Askers))
	}
	for i, was := range s.Askers {
		now := told.s.Askers[i]
		if was.Name != c.who || c.do == "join" {
			if !equalAsker(was, now) {
				t.Fatalf("%s: %s is touched: %v", what, was.Name, now)
			}
			continue
		}
		if now.Name != was.Name || now.Most != was.Most || now.Fuel > was.Fuel || now.Fuel != was.Fuel && c.do != "ask" && c.do != "turn" {
			t.Fatalf("%s: %s is another one: %v", what, was.Name, now)
		}
		if kept := slices.EqualFunc(was.Trees, now.Trees, equalKept); !kept && (told.code != impl.ShelfFine || c.do == "ask") {
			t.Fatalf("%s: the trees are turned: %v", what, now)
		}
	}
}

// shelfCase is a call, what it answers, and the shelf then; "*" is the shelf as it was.
type shelfCase struct{ call, want, after string }

// wantCalls asks for what each call answers, each with the same shelf.
func wantCalls(t *testing.T, start string, cases ...shelfCase) {
	t.Helper()
	for _, c := range cases {
		wantScript(t, start, c)
	}
}

// wantScript asks for what each call answers, each with the shelf of the one ahead.
func wantScript(t *testing.T, start string, cases ...shelfCase) {
	t.Helper()
	s := readShelf(t, start)
	for _, want := range cases {
		call := readCall(t, want.call)
		told := wantCall(t, s, call)
		after := want.after
		if after == "*" {
			after = plainShelf(s)
		}
		if got := plainShelfTold(call, told); got != want.want || plainShelf(told.s) != after {
			t.Fatalf("%s of %s\ntells %s, and %s,\nnot %s, and %s", want.call, plainShelf(s), got, plainShelf(told.s), want.want, after)
		}
		s = told.s
	}
}

// wrongNames is texts that are no names.
func wrongNames() []string {
	return []string{"", "A", "annA", "Ann", "ann ", " ann", "an n", "ann0", "1", "a-b", "`", "{", "é", "ann\x00", "\xff", "a\xff", "\uFFFD", "abcdefghijklm", strings.Repeat("a", 100000)}
}

// farNumbers is numbers beyond 0 and a bound.
func farNumbers(most int) []int {
	return []int{-1, most + 1, -most, math.MinInt, math.MaxInt, math.MaxInt32, math.MinInt32, math.MinInt + 1, 1 << 40}
}

// good is a shelf that is ok.
const good = "ann 20 50 t=[1,2,3] u={a:1} v='x'; bob 20 3 t=[9]; cat 20 9; t 150 5000 ann=null"

// wrongShelves is shelves that are not ok, by what is wrong with them.
func wrongShelves(t *testing.T) map[string]impl.Shelf {
	wrong := map[string]impl.Shelf{}
	turn := func(what string, start string, turned func(s *impl.Shelf)) {
		s := readShelf(t, start)
		turned(&s)
		wrong[what] = s
	}
	for i, who := range []string{"ann", "bob", "cat", "t"} {
		turn("one more named "+who, good, func(s *impl.Shelf) { s.Askers = append(s.Askers, impl.Asker{Name: "dan"}) })
		turn("two named "+who, good, func(s *impl.Shelf) { s.Askers[(i+1)%4].Name = who })
		turn("two named so beside each other, "+who, good, func(s *impl.Shelf) { s.Askers = []impl.Asker{s.Askers[i], s.Askers[i]} })
		for _, name := range wrongNames() {
			turn(fmt.Sprintf("no name: %q for %s", name, who), good, func(s *impl.Shelf) { s.Askers[i].Name = name })
			turn(fmt.Sprintf("no name: %q for a tree of %s", name, who), good, func(s *impl.Shelf) {
				s.Askers[i].Trees = append(s.Askers[i].Trees, impl.Kept{Name: name})
			})
		}
		for _, n := range farNumbers(impl.ShelfParts) {
			turn(fmt.Sprintf("Most %d for %s", n, who), good, func(s *impl.Shelf) { s.Askers[i].Most = n })
		}
		for _, n := range farNumbers(impl.ShelfFuel) {
			turn(fmt.Sprintf("Fuel %d for %s", n, who), good, func(s *impl.Shelf) { s.Askers[i].Fuel = n })
		}
		for what, v := range treesThatAreNotOk() {
			turn(what+" for "+who, good, func(s *impl.Shelf) {
				s.Askers[i].Trees = append(s.Askers[i].Trees, impl.Kept{Name: "w", V: v})
			})
		}
	}
	for at := range 3 {
		turn(fmt.Sprintf("two trees of one name at %d", at), good, func(s *impl.Shelf) { s.Askers[0].Trees[at].Name = s.Askers[0].Trees[(at+1)%3].Name })
		turn(fmt.Sprintf("no name for the tree at %d", at), good, func(s *impl.Shelf) { s.Askers[0].Trees[at].Name = "" })
		turn(fmt.Sprintf("a tree that is not ok at %d", at), good, func(s *impl.Shelf) { s.Askers[0].Trees[at].V.N = impl.ValMost + 1 })
	}
	five := "ann 20 50 t=1 u=1 v=1 w=1 x=1"
	turn("five trees", five, func(*impl.Shelf) {})
	turn("five trees of the second", "bob 1 1; "+five, func(*impl.Shelf) {})
	turn("one part too many", "ann 3 50 t=[1,2,3]", func(*impl.Shelf) {})
	turn("one part too many of several", "ann 6 50 t=[1,2,3] u=1 v=[1]", func(*impl.Shelf) {})
	turn("a part too many of nobody's", "bob 150 0; ann 0 50 t=null", func(*impl.Shelf) {})
	turn("too many parts of great trees", "ann 150 50 t="+rowText(59)+" u="+rowText(59)+" v="+rowText(30), func(*impl.Shelf) {})
	turn("five askers of one name", "ann 1 1; ann 1 1; ann 1 1; ann 1 1; ann 1 1", func(*impl.Shelf) {})
	wrong["an asker who is nothing"] = impl.Shelf{Askers: []impl.Asker{{}}}
	wrong["a tree that is nothing"] = impl.Shelf{Askers: []impl.Asker{{Name: "ann", Most: 9, Trees: []impl.Kept{{}}}}}
	wrong["very many askers"] = impl.Shelf{Askers: slices.Repeat([]impl.Asker{{Name: "ann"}}, 300000)}
	wrong["very many trees"] = impl.Shelf{Askers: []impl.Asker{{Name: "ann", Most: 150, Trees: slices.Repeat([]impl.Kept{{Name: "t"}}, 300000)}}}
	return wrong
}

func TestShelfOk(t *testing.T) {
	great := "ann 150 5000 t=" + rowText(59) + " u=" + rowText(59) + " v=" + rowText(29)
	for _, text := range []string{
		"", good, "ann 0 0", "ann 150 5000", "ann 149 4999", "ann 1 1", "ann 0 5000", "ann 150 0", "abcdefghijkl 3 3 abcdefghijkl=1", "a 3 3 z=1", "zzzzzzzzzzzz 0 0",
		// Four of all.
		"ann 0 0; bob 0 0; cat 0 0; dan 0 0", "a 4 0 a=1 b=1 c=1 d=1; b 4 0 a=1 b=1 c=1 d=1; c 4 0 a=1 b=1 c=1 d=1; d 4 0 a=1 b=1 c=1 d=1", "dan 0 0; ann 0 0; cat 0 0; bob 0 0", "ann 4 0 d=1 a=1 c=1 b=1",
		// One name for trees of two, for an asker and a tree, and names that begin alike.
		"ann 9 0 t=1; bob 9 0 t=1", "ann 9 0 ann=1 bob=2; bob 9 0 ann=1", "an 0 0; ann 0 0; a 0 0; anna 0 0", "ann 9 0 t=1 tt=1 ttt=1 ta=1", "ann 9 0 t=1 u=1",
		// As many parts as may be.
		"ann 4 0 t=[1,2,3]", "ann 5 0 t=[1,2,3]", "ann 7 0 t=[1,2,3] u=1 v=[1]", "ann 1 0 t=null", great, great + "; bob 150 5000 t=" + rowText(59) + " u=" + rowText(59) + " v=" + rowText(28) + " w=1", "ann 60 0 t=" + rowText(59), "ann 4 0 t=null u=false v=true w='a'",
	} {
		if s := readShelf(t, text); !impl.ShelfOk(s) || !shelfModel(s) {
			t.Errorf("%s is not ok", text)
		}
	}
	if !impl.ShelfOk(impl.Shelf{Askers: []impl.Asker{}}) || !impl.ShelfOk(impl.Shelf{Askers: []impl.Asker{{Name: "ann", Trees: []impl.Kept{}}}}) {
		t.Error("empty lists are not ok")
	}
	for what, s := range wrongShelves(t) {
		if impl.ShelfOk(s) {
			t.Errorf("%s is ok", what)
		}
	}
	for n := -3; n < 160; n++ {
		s := impl.Shelf{Askers: []impl.Asker{{Name: "ann", Most: n}}}
		s.Askers[0].Trees = []impl.Kept{{Name: "t", V: wide(39)}, {Name: "u", V: wide(59)}}
		if impl.ShelfOk(s) != (n >= 100 && n <= 150) || impl.ShelfOk(s) != shelfModel(s) {
			t.Errorf("100 parts with a Most of %d", n)
		}
		s.Askers[0].Trees = nil
		if impl.ShelfOk(s) != (n >= 0 && n <= 150) {
			t.Errorf("no parts with a Most of %d", n)
		}
	}
	for _, n := range []int{-2, -1, 0, 1, 400, 4999, 5000, 5001, 5002} {
		if s := (impl.Shelf{Askers: []impl.Asker{{Name: "ann", Fuel: n}}}); impl.ShelfOk(s) != (n >= 0 && n <= 5000) {
			t.Errorf("a Fuel of %d", n)
		}
	}
}

// turnedShelves is shelves that are not the same as one, in just one thing each.
func turnedShelves(s impl.Shelf) []impl.Shelf {
	var all []impl.Shelf
	turn := func(turned func(s *impl.Shelf)) {
		other := cloneShelf(s)
		turned(&other)
		all = append(all, other)
	}
	turn(func(s *impl.Shelf) { s.Askers = append(s.Askers, impl.Asker{}) })
	turn(func(s *impl.Shelf) { s.Askers = slices.Insert(s.Askers, 0, impl.Asker{}) })
	for i := range s.Askers {
		turn(func(s *impl.Shelf) { s.Askers = slices.Delete(s.Askers, i, i+1) })
		turn(func(s *impl.Shelf) { s.Askers = s.Askers[:i] })
		turn(func(s *impl.Shelf) { s.Askers[i].Name += "a" })
		turn(func(s *impl.Shelf) { s.Askers[i].Name = "" })
		turn(func(s *impl.Shelf) { s.Askers[i].Most++ })
		turn(func(s *impl.Shelf) { s.Askers[i].Most = -s.Askers[i].Most - 1 })
		turn(func(s *impl.Shelf) { s.Askers[i].Fuel-- })
		turn(func(s *impl.Shelf) { s.Askers[i].Fuel += 1 << 32 })
		turn(func(s *impl.Shelf) { s.Askers[i].Trees = append(s.Askers[i].Trees, impl.Kept{}) })
		turn(func(s *impl.Shelf) { s.Askers[i].Trees = slices.Insert(s.Askers[i].Trees, 0, impl.Kept{}) })
		if i > 0 {
			turn(func(s *impl.Shelf) { s.Askers[i], s.Askers[i-1] = s.Askers[i-1], s.Askers[i] })
		}
		for j := range s.Askers[i].Trees {
			turn(func(s *impl.Shelf) { s.Askers[i].Trees = slices.Delete(s.Askers[i].Trees, j, j+1) })
			turn(func(s *impl.Shelf) { s.Askers[i].Trees = s.Askers[i].Trees[:j] })
			turn(func(s *impl.Shelf) { s.Askers[i].Trees[j].Name += "b" })
			turn(func(s *impl.Shelf) { s.Askers[i].Trees[j].V.Kind++ })
			turn(func(s *impl.Shelf) { s.Askers[i].Trees[j].V.N++ })
			turn(func(s *impl.Shelf) { s.Askers[i].Trees[j].V.S += "c" })
			turn(func(s *impl.Shelf) { s.Askers[i].Trees[j].V = row(s.Askers[i].Trees[j].V) })
			turn(func(s *impl.Shelf) {
				v := &s.Askers[i].Trees[j].V
				v.Keys, v.List = append(v.Keys, "zz"), append(v.List, num(1))
			})
			if j > 0 {
				turn(func(s *impl.Shelf) { list := s.Askers[i].Trees; list[j], list[j-1] = list[j-1], list[j] })
			}
		}
	}
	return all
}

// wantSameShelves asks whether two shelves are one, both ways.
func wantSameShelves(t *testing.T, what string, a, b impl.Shelf, same bool) {
	t.Helper()
	if impl.ShelfSame(a, b) != same || impl.ShelfSame(b, a) != same {
		t.Errorf("%s: the same: %v", what, !same)
	}
}

func TestShelfSame(t *testing.T) {
	list := []impl.Shelf{{}, readShelf(t, good), readShelf(t, "ann 0 0"), readShelf(t, "ann 0 0; ann 0 0; ann 0 0"), readShelf(t, "a 1 2 t=[[{a:[1,{b:'x'}],c:null}]] u=[[{a:[1,{b:'x'}],c:null}]]; a 1 2 t=1"), readShelf(t, "- -1 -7 -=1 -=1 -=1 -=1 -=1; ann 9 9; bob 8 8; cat 7 7; dan 6 6")}
	for _, s := range wrongShelves(t) {
		if small(s) {
			list = append(list, s)
		}
	}
	for i, s := range list {
		wantSameShelves(t, "one shelf", s, s, true)
		wantSameShelves(t, "a copy", s, cloneShelf(s), true)
		wantSameShelves(t, "a copy with spare room", s, roomyShelf(s), true)
		for at, other := range append(turnedShelves(s), list[:i]...) {
			if same := equalShelf(s, other); impl.ShelfSame(s, other) != same || impl.ShelfSame(other, s) != same {
				t.Errorf("%v and %v, turned at %d: the same: %v", s, other, at, !same)
			}
		}
	}
	for at, other := range turnedShelves(list[1]) {
		wantSameShelves(t, fmt.Sprint("turned at ", at), list[1], other, false)
	}
	deepest := readShelf(t, "ann 9 9 t=[[[[[1]]]]]; bob 9 9 t={a:{a:{a:{a:{a:1}}}}}")
	for text, same := range map[string]bool{"ann 9 9 t=[[[[[1]]]]]; bob 9 9 t={a:{a:{a:{a:{a:1}}}}}": true, "ann 9 9 t=[[[[[2]]]]]; bob 9 9 t={a:{a:{a:{a:{a:1}}}}}": false, "ann 9 9 t=[[[[[1]]]]]; bob 9 9 t={a:{a:{a:{a:{b:1}}}}}": false, "ann 9 9 t=[[[[[1]]]]]; bob 9 9 t={a:{a:{a:{a:{a:null}}}}}": false, "ann 9 9 t=[[[[[1],2]]]]; bob 9 9 t={a:{a:{a:{a:{a:1}}}}}": false} {
		wantSameShelves(t, text, deepest, readShelf(t, text), same)
	}
	// Empty lists and none are the same.
	wantSameShelves(t, "nobody", impl.Shelf{}, impl.Shelf{Askers: []impl.Asker{}}, true)
	wantSameShelves(t, "no trees", impl.Shelf{Askers: []impl.Asker{{}}}, impl.Shelf{Askers: []impl.Asker{{Trees: []impl.Kept{}}}}, true)
	wantSameShelves(t, "an empty row", impl.Shelf{Askers: []impl.Asker{{Trees: []impl.Kept{{V: row()}}}}}, impl.Shelf{Askers: []impl.Asker{{Trees: []impl.Kept{{V: row([]impl.Val{}...)}}}}}, true)
}

// small says whether a shelf has few askers and trees, all of which come to an end soon.
func small(s impl.Shelf) bool {
	for _, a := range s.Askers {
		for _, kept := range a.Trees {
			v := kept.V
			for deep := 0; len(v.List) > 0; deep++ {
				if deep > 20 {
					return false
				}
				v = v.List[0]
			}
		}
		if len(a.Trees) > 9 {
			return false
		}
	}
	return len(s.Askers) < 9
}

func TestShelfSameOfTreesWithoutEnd(t *testing.T) {
	shelf := func(v impl.Val) impl.Shelf {
		return impl.Shelf{Askers: []impl.Asker{{Name: "ann", Trees: []impl.Kept{{Name: "t", V: v}, {Name: "u", V: num(1)}}}}}
	}
	trees := []impl.Val{round(1), round(2), rows(100000, num(1)), rows(100000, num(2)), rows(99999, num(1)), num(1)}
	for i, a := range trees {
		for j, b := range trees {
			wantSameShelves(t, fmt.Sprint("trees without end ", i, j), shelf(a), shelf(b), i == j)
		}
		other := shelf(a)
		other.Askers[0].Trees[1].V.N++
		wantSameShelves(t, "what is behind a tree without end", shelf(a), other, false)
	}
}

func TestShelfJoin(t *testing.T) {
	two := "ann 10 50 t=[1,2]; bob 0 0"
	var cases []shelfCase
	for _, most := range []int{0, 1, 10, 149, 150} {
		for _, fuel := range []int{0, 1, 400, 4999, 5000} {
			cases = append(cases, shelfCase{fmt.Sprint("join cat ", most, " ", fuel), "fine", fmt.Sprint(two, "; cat ", most, " ", fuel)})
		}
	}
	for _, n := range farNumbers(impl.ShelfParts) {
		cases = append(cases, shelfCase{fmt.Sprint("join cat ", n, " 5"), "bad", "*"}, shelfCase{fmt.Sprint("join ann ", n, " 5"), "bad", "*"})
	}
	for _, n := range farNumbers(impl.ShelfFuel) {
		cases = append(cases, shelfCase{fmt.Sprint("join cat 5 ", n), "bad", "*"}, shelfCase{fmt.Sprint("join bob 5 ", n), "bad", "*"})
	}
	for _, name := range []string{"a", "t", "an", "anna", "abcdefghijkl", "zzzzzzzzzzzz"} {
		cases = append(cases, shelfCase{"join " + name + " 3 4", "fine", two + "; " + name + " 3 4"})
	}
	wantCalls(t, two, append(cases, shelfCase{"join ann 3 4", "full", "*"}, shelfCase{"join bob 0 0", "full", "*"}, shelfCase{"join bob 1 1", "full", "*"}, shelfCase{"join ann 10 50", "full", "*"})...)
	wantCalls(t, "", shelfCase{"join ann 3 4", "fine", "ann 3 4"}, shelfCase{"join - 3 4", "bad", ""}, shelfCase{"join ann -1 4", "bad", ""})
	four := "ann 1 1; bob 1 1; cat 1 1; dan 1 1"
	wantCalls(t, four, shelfCase{"join eve 1 1", "full", "*"}, shelfCase{"join dan 1 1", "full", "*"}, shelfCase{"join ann 1 1", "full", "*"}, shelfCase{"join - 1 1", "bad", "*"}, shelfCase{"join eve 151 1", "bad", "*"}, shelfCase{"join ann 1 5001", "bad", "*"}, shelfCase{"join A 1 1", "bad", "*"})
	for _, start := range []string{"", two, four} {
		for _, name := range wrongNames() {
			if told := wantCall(t, readShelf(t, start), shelfCall{do: "join", who: name, most: 1, fuel: 1}); told.code != impl.ShelfBad {
				t.Errorf("%q joined %s: %d", name, start, told.code)
			}
		}
	}
	// The last place, and what the one who joined has then.
	wantScript(t, "cat 9 9 t=1; ann 1 1; bob 1 1",
		shelfCase{"join aa 5 6", "fine", "cat 9 9 t=1; ann 1 1; bob 1 1; aa 5 6"}, shelfCase{"used aa", "0", "*"}, shelfCase{"get aa t", "none", "*"}, shelfCase{"drop aa t", "none", "*"}, shelfCase{"ask aa t .", "none", "*"}, shelfCase{"turn aa t .", "none", "*"}, shelfCase{"join zz 1 1", "full", "*"}, shelfCase{"join aa 1 1", "full", "*"},
		shelfCase{"put aa t [1,2,3,4,5]", "full", "*"}, shelfCase{"put aa t [1,2,3,4]", "fine", "cat 9 9 t=1; ann 1 1; bob 1 1; aa 5 6 t=[1,2,3,4]"}, shelfCase{"ask aa t pipe . pipe . .", "[1,2,3,4] fine", "cat 9 9 t=1; ann 1 1; bob 1 1; aa 5 1 t=[1,2,3,4]"}, shelfCase{"get cat t", "1 fine", "*"}, shelfCase{"join aa 5 6", "full", "*"})
}

func TestShelfPut(t *testing.T) {
	start := "ann 10 50 t=[1,2] u=5 v={a:1}; bob 10 3 t=[9]"
	wantCalls(t, start,
		// A new name, and one that is there: its place stays.
		shelfCase{"put ann w 6", "fine", "ann 10 50 t=[1,2] u=5 v={a:1} w=6; bob 10 3 t=[9]"}, shelfCase{"put ann a 6", "fine", "ann 10 50 t=[1,2] u=5 v={a:1} a=6; bob 10 3 t=[9]"},
		shelfCase{"put ann t 6", "fine", "ann 10 50 t=6 u=5 v={a:1}; bob 10 3 t=[9]"}, shelfCase{"put ann u 6", "fine", "ann 10 50 t=[1,2] u=6 v={a:1}; bob 10 3 t=[9]"}, shelfCase{"put ann v 6", "fine", "ann 10 50 t=[1,2] u=5 v=6; bob 10 3 t=[9]"}, shelfCase{"put ann u null", "fine", "ann 10 50 t=[1,2] u=null v={a:1}; bob 10 3 t=[9]"}, shelfCase{"put ann t [1,2]", "fine", "*"},
		// Another one's tree of the same name.
		shelfCase{"put bob t 6", "fine", "ann 10 50 t=[1,2] u=5 v={a:1}; bob 10 3 t=6"}, shelfCase{"put bob u 6", "fine", "ann 10 50 t=[1,2] u=5 v={a:1}; bob 10 3 t=[9] u=6"}, shelfCase{"put bob ann 6", "fine", "ann 10 50 t=[1,2] u=5 v={a:1}; bob 10 3 t=[9] ann=6"},
		// Parts that are just Most, and one more: 6 are there.
		shelfCase{"put ann w [1,2,3]", "fine", "ann 10 50 t=[1,2] u=5 v={a:1} w=[1,2,3]; bob 10 3 t=[9]"}, shelfCase{"put ann w [1,2,3,4]", "full", "*"}, shelfCase{"put ann w " + rowText(59), "full", "*"},
		shelfCase{"put bob w [1,2,3,4,5,6,7]", "fine", "ann 10 50 t=[1,2] u=5 v={a:1}; bob 10 3 t=[9] w=[1,2,3,4,5,6,7]"}, shelfCase{"put bob w [1,2,3,4,5,6,7,8]", "full", "*"},
		// In the place of another one only what is there then counts.
		shelfCase{"put ann t [1,2,3,4,5,6]", "fine", "ann 10 50 t=[1,2,3,4,5,6] u=5 v={a:1}; bob 10 3 t=[9]"}, shelfCase{"put ann t [1,2,3,4,5,6,7]", "full", "*"}, shelfCase{"put ann u [1,2,3,4]", "fine", "ann 10 50 t=[1,2] u=[1,2,3,4] v={a:1}; bob 10 3 t=[9]"}, shelfCase{"put ann u [1,2,3,4,5]", "full", "*"}, shelfCase{"put ann v {a:[1,2,3]}", "fine", "ann 10 50 t=[1,2] u=5 v={a:[1,2,3]}; bob 10 3 t=[9]"}, shelfCase{"put ann v {a:[1,2,3,4]}", "fine", "ann 10 50 t=[1,2] u=5 v={a:[1,2,3,4]}; bob 10 3 t=[9]"}, shelfCase{"put ann v {a:[1,2,3,4,5]}", "full", "*"}, shelfCase{"put bob t [1,2,3,4,5,6,7,8,9]", "fine", "ann 10 50 t=[1,2] u=5 v={a:1}; bob 10 3 t=[1,2,3,4,5,6,7,8,9]"}, shelfCase{"put bob t [1,2,3,4,5,6,7,8,9,0]", "full", "*"},
		// Who is not there, and names that are none.
		shelfCase{"put cat t 6", "none", "*"}, shelfCase{"put - t 6", "none", "*"}, shelfCase{"put an t 6", "none", "*"}, shelfCase{"put t t 6", "none", "*"}, shelfCase{"put cat - 6", "none", "*"}, shelfCase{"put ann - 6", "bad", "*"}, shelfCase{"put ann A 6", "bad", "*"}, shelfCase{"put ann abcdefghijklm 6", "bad", "*"}, shelfCase{"put ann abcdefghijkl 6", "fine", "ann 10 50 t=[1,2] u=5 v={a:1} abcdefghijkl=6; bob 10 3 t=[9]"}, shelfCase{"put ann - " + rowText(59), "bad", "*"}, shelfCase{"put Ann t 6", "none", "*"})
	// Four trees, and one of them put anew; a Most that is met.
	four := "ann 5 9 a=1 b=1 c=1 d=1"
	wantCalls(t, four, shelfCase{"put ann e 1", "full", "*"}, shelfCase{"put ann t null", "full", "*"}, shelfCase{"put ann d [2]", "fine", "ann 5 9 a=1 b=1 c=1 d=[2]"}, shelfCase{"put ann a [2]", "fine", "ann 5 9 a=[2] b=1 c=1 d=1"}, shelfCase{"put ann b [2,3]", "full", "*"}, shelfCase{"put ann - 1", "bad", "*"})
	wantScript(t, "ann 150 9",
		shelfCase{"put ann d " + rowText(59), "fine", "ann 150 9 d=" + rowText(59)}, shelfCase{"put ann c " + rowText(59), "fine", "ann 150 9 d=" + rowText(59) + " c=" + rowText(59)}, shelfCase{"put ann b " + rowText(30), "full", "*"}, shelfCase{"put ann b " + rowText(29), "fine", "ann 150 9 d=" + rowText(59) + " c=" + rowText(59) + " b=" + rowText(29)}, shelfCase{"used ann", "150", "*"}, shelfCase{"put ann a null", "full", "*"}, shelfCase{"put ann c 1", "fine", "ann 150 9 d=" + rowText(59) + " c=1 b=" + rowText(29)}, shelfCase{"put ann a " + rowText(58), "fine", "ann 150 9 d=" + rowText(59) + " c=1 b=" + rowText(29) + " a=" + rowText(58)}, shelfCase{"used ann", "150", "*"})
	wantCalls(t, "ann 0 9; bob 1 9", shelfCase{"put ann t null", "full", "*"}, shelfCase{"put bob t null", "fine", "ann 0 9; bob 1 9 t=null"}, shelfCase{"put bob t []", "fine", "ann 0 9; bob 1 9 t=[]"}, shelfCase{"put bob t [1]", "full", "*"})
	wantCalls(t, "", shelfCase{"put ann t 1", "none", ""})
	for _, name := range wrongNames() {
		for who, code := range map[string]int{"ann": impl.ShelfBad, "cat": impl.ShelfNone} {
			if told := wantCall(t, readShelf(t, start), shelfCall{do: "put", who: who, name: name, v: num(1)}); told.code != code {
				t.Errorf("%q is put: %d", name, told.code)
			}
		}
	}
	for what, v := range treesThatAreNotOk() {
		for _, c := range []shelfCall{{who: "ann", name: "t"}, {who: "ann", name: "w"}, {who: "bob", name: "t"}, {who: "ann"}} {
			s := readShelf(t, start)
			if got, code := impl.ShelfPut(s, c.who, c.name, v); code != impl.ShelfBad || !equalShelf(got, s) {
				t.Errorf("%s is put: %v, %v", what, got, code)
			}
		}
		for _, from := range []string{start, ""} {
			s := readShelf(t, from)
			if got, code := impl.ShelfPut(s, "cat", "t", v); code != impl.ShelfNone || !equalShelf(got, s) {
				t.Errorf("%s is put by nobody: %v, %v", what, got, code)
			}
		}
	}
}

func TestShelfGetAndDrop(t *testing.T) {
	start := "ann 20 50 t=[1,2] u=5 v={a:[1,{b:null}]} w=null; bob 10 3 t=[9] x=1; cat 1 1"
	rest := "; bob 10 3 t=[9] x=1; cat 1 1"
	wantCalls(t, start,
		shelfCase{"get ann t", "[1,2] fine", "*"}, shelfCase{"get ann u", "5 fine", "*"}, shelfCase{"get ann v", "{a:[1,{b:null}]} fine", "*"}, shelfCase{"get ann w", "null fine", "*"}, shelfCase{"get bob t", "[9] fine", "*"}, shelfCase{"get bob x", "1 fine", "*"},
		shelfCase{"get ann x", "none", "*"}, shelfCase{"get bob u", "none", "*"}, shelfCase{"get cat t", "none", "*"}, shelfCase{"get dan t", "none", "*"}, shelfCase{"get - t", "none", "*"}, shelfCase{"get ann -", "none", "*"}, shelfCase{"get ann ann", "none", "*"}, shelfCase{"get t ann", "none", "*"}, shelfCase{"get ann tt", "none", "*"}, shelfCase{"get Ann t", "none", "*"}, shelfCase{"get ann T", "none", "*"},
		shelfCase{"drop ann t", "fine", "ann 20 50 u=5 v={a:[1,{b:null}]} w=null" + rest}, shelfCase{"drop ann u", "fine", "ann 20 50 t=[1,2] v={a:[1,{b:null}]} w=null" + rest}, shelfCase{"drop ann v", "fine", "ann 20 50 t=[1,2] u=5 w=null" + rest}, shelfCase{"drop ann w", "fine", "ann 20 50 t=[1,2] u=5 v={a:[1,{b:null}]}" + rest}, shelfCase{"drop bob t", "fine", "ann 20 50 t=[1,2] u=5 v={a:[1,{b:null}]} w=null; bob 10 3 x=1; cat 1 1"},
		shelfCase{"drop ann x", "none", "*"}, shelfCase{"drop bob u", "none", "*"}, shelfCase{"drop cat t", "none", "*"}, shelfCase{"drop dan t", "none", "*"}, shelfCase{"drop - t", "none", "*"}, shelfCase{"drop ann -", "none", "*"}, shelfCase{"drop ann A", "none", "*"}, shelfCase{"drop t ann", "none", "*"})
	wantCalls(t, "", shelfCase{"get ann t", "none", ""}, shelfCase{"drop ann t", "none", ""})
	// All dropped, and put again: behind all.
	wantScript(t, start,
		shelfCase{"drop ann u", "fine", "ann 20 50 t=[1,2] v={a:[1,{b:null}]} w=null" + rest}, shelfCase{"get ann u", "none", "*"}, shelfCase{"drop ann u", "none", "*"}, shelfCase{"put ann u 7", "fine", "ann 20 50 t=[1,2] v={a:[1,{b:null}]} w=null u=7" + rest}, shelfCase{"drop ann w", "fine", "ann 20 50 t=[1,2] v={a:[1,{b:null}]} u=7" + rest}, shelfCase{"drop ann t", "fine", "ann 20 50 v={a:[1,{b:null}]} u=7" + rest}, shelfCase{"drop ann u", "fine", "ann 20 50 v={a:[1,{b:null}]}" + rest}, shelfCase{"drop ann v", "fine", "ann 20 50" + rest},
		shelfCase{"used ann", "0", "*"}, shelfCase{"get ann v", "none", "*"}, shelfCase{"drop ann v", "none", "*"}, shelfCase{"get bob t", "[9] fine", "*"}, shelfCase{"put ann v 8", "fine", "ann 20 50 v=8" + rest}, shelfCase{"put ann u 9", "fine", "ann 20 50 v=8 u=9" + rest}, shelfCase{"get ann v", "8 fine", "*"}, shelfCase{"used ann", "2", "*"})
	// What is dropped leaves its room.
	wantScript(t, "ann 4 1 a=1 b=1 c=1 d=1", shelfCase{"put ann e 1", "full", "*"}, shelfCase{"drop ann b", "fine", "ann 4 1 a=1 c=1 d=1"}, shelfCase{"put ann e [1]", "full", "*"}, shelfCase{"put ann e 2", "fine", "ann 4 1 a=1 c=1 d=1 e=2"})
	for _, name := range wrongNames() {
		for _, do := range []string{"get", "drop", "ask", "turn"} {
			for _, c := range []shelfCall{{do: do, who: "ann", name: name, f: filtOf(impl.FiltId)}, {do: do, who: name, name: "t", f: filtOf(impl.FiltId)}} {
				if told := wantCall(t, readShelf(t, start), c); told.code != impl.ShelfNone {
					t.Errorf("%q: %s: %d", name, do, told.code)
				}
			}
		}
	}
}

// shelfOfAnn is a shelf on which ann keeps a tree, beside others.
func shelfOfAnn(most, fuel int, tree string) string {
	return fmt.Sprintf("bob 20 7 t=[9]; ann %d %d a=0 t=%s z=1; cat 5 5 t=1", most, fuel, tree)
}

func TestShelfAsk(t *testing.T) {
	for _, c := range []struct {
		fuel             int
		tree, filt, want string
		left             int
	}{
		// None, one and several things.
		{50, "[1,2,3]", "none", "fine", 49}, {50, "[1,2,3]", ".", "[1,2,3] fine", 49}, {50, "[1,2,3]", "[]", "1 2 3 fine", 49}, {50, "[]", "[]", "fine", 49}, {50, "{a:5}", ".a:", "5 fine", 49}, {50, "{a:5}", ".b:", "null fine", 49}, {50, "5", "both . both =1 .", "5 1 5 fine", 45}, {50, "[1,2,3]", "turn [] add . =1", "[2,3,4] fine", 39},
		// Something bad, also behind some that were told.
		{50, "5", "bad", "bad", 49}, {50, "5", "[]", "bad", 49}, {50, "5", "both . bad", "5 bad", 47}, {50, "[1,'a',2]", "pipe [] add . =1", "2 bad", 42}, {50, "5", "both both . . .a:", "5 5 bad", 45}, {50, "5", "try both . bad", "5 fine", 46}, {50, "{a:[1]}", "turn .a: bad", "bad", 47},
		// Fuel that is just enough, one too little, and none at all.
		{5, "5", "both . both =1 .", "5 1 5 fine", 0}, {4, "5", "both . both =1 .", "5 1 long", 0}, {3, "5", "both . both =1 .", "5 long", 0}, {2, "5", "both . both =1 .", "5 long", 0}, {1, "5", "both . both =1 .", "long", 0}, {0, "5", "both . both =1 .", "long", 0}, {6, "5", "both . both =1 .", "5 1 5 fine", 1},
		{1, "5", ".", "5 fine", 0}, {0, "5", ".", "long", 0}, {0, "5", "none", "long", 0}, {0, "5", "bad", "long", 0}, {1, "5", "bad", "bad", 0}, {3, "5", "both . bad", "5 bad", 0}, {2, "5", "both . bad", "5 long", 0},
		// No more than RunFuel for one ask.
		{5000, "5", hungry(0), "1 fine", 4602}, {5000, "5", hungry(1), "1 fine", 4601}, {5000, "5", hungry(2), "1 fine", 4600}, {5000, "5", hungry(3), "long", 4600}, {4999, "5", hungry(4), "long", 4599}, {401, "5", hungry(2), "1 fine", 1}, {401, "5", hungry(3), "long", 1}, {400, "5", hungry(2), "1 fine", 0}, {400, "5", hungry(3), "long", 0}, {399, "5", hungry(2), "long", 0}, {399, "5", hungry(1), "1 fine", 0}, {800, "5", "both . " + strings.Replace(hungry(1), "try ", "", 1), "5 1 fine", 400}, {5000, "5", ".", "5 fine", 4999}, {401, "5", ".", "5 fine", 400},
		// More than may be told.
		{5000, rowText(40), "[]", told(40, "1") + "fine", 4999}, {5000, rowText(41), "[]", told(40, "1") + "long", 4600}, {450, rowText(41), "[]", told(40, "1") + "long", 50}, {400, rowText(41), "[]", told(40, "1") + "long", 0}, {30, rowText(41), "[]", told(40, "1") + "long", 0}, {1, rowText(41), "[]", told(40, "1") + "long", 0}, {0, rowText(41), "[]", "long", 0}, {5000, rowText(41), "row []", "long", 4600},
	} {
		wantCalls(t, shelfOfAnn(70, c.fuel, c.tree), shelfCase{"ask ann t " + c.filt, c.want, shelfOfAnn(70, c.left, c.tree)})
	}
	// What is told may be more than may be kept.
	wantCalls(t, "ann 1 50 t=1", shelfCase{"ask ann t =" + rowText(59), rowText(59) + " fine", "ann 1 49 t=1"}, shelfCase{"ask ann t both =[1,2] =[3,4]", "[1,2] [3,4] fine", "ann 1 47 t=1"})
	// Who is not there, and what is not.
	wantCalls(t, shelfOfAnn(70, 50, "5"), shelfCase{"ask dan t .", "none", "*"}, shelfCase{"ask ann u .", "none", "*"}, shelfCase{"ask cat a .", "none", "*"}, shelfCase{"ask - t .", "none", "*"}, shelfCase{"ask ann - .", "none", "*"}, shelfCase{"ask bob t .", "[9] fine", "bob 20 6 t=[9]; ann 70 50 a=0 t=5 z=1; cat 5 5 t=1"}, shelfCase{"ask ann z .", "1 fine", shelfOfAnn(70, 49, "5")})
	// Fuel is gone for all that comes.
	wantScript(t, "ann 9 7 t=[1,2]; bob 9 7 t=[1,2]", shelfCase{"ask ann t both . .", "[1,2] [1,2] fine", "ann 9 4 t=[1,2]; bob 9 7 t=[1,2]"}, shelfCase{"ask ann t both . .", "[1,2] [1,2] fine", "ann 9 1 t=[1,2]; bob 9 7 t=[1,2]"}, shelfCase{"ask ann t both . .", "long", "ann 9 0 t=[1,2]; bob 9 7 t=[1,2]"}, shelfCase{"ask ann t .", "long", "*"}, shelfCase{"turn ann t .", "long", "*"}, shelfCase{"get ann t", "[1,2] fine", "*"}, shelfCase{"put ann t 3", "fine", "ann 9 0 t=3; bob 9 7 t=[1,2]"}, shelfCase{"ask bob t both . .", "[1,2] [1,2] fine", "ann 9 0 t=3; bob 9 4 t=[1,2]"})
}

func TestShelfAskAndTurnOfNoFilter(t *testing.T) {
	for what, f := range wrongFilts() {
		for _, fuel := range []int{0, 1, 50, 5000} {
			s := readShelf(t, shelfOfAnn(70, fuel, "[1]"))
			for _, do := range []string{"ask", "turn"} {
				told := shelfCall{do: do, who: "ann", name: "t", f: f}.told(s)
				if told.code != impl.ShelfBad || len(told.list) != 0 || !equalShelf(told.s, s) {
					t.Errorf("%s: %s: %v", do, what, told)
				}
				for _, nobody := range []shelfCall{{do: do, who: "dan", name: "t", f: f}, {do: do, who: "ann", name: "u", f: f}} {
					told := nobody.told(s)
					if told.code != impl.ShelfNone || len(told.list) != 0 || !equalShelf(told.s, s) {
						t.Errorf("%s of nobody: %s: %v", do, what, told)
					}
				}
			}
		}
	}
}

func TestShelfTurn(t *testing.T) {
	for _, c := range []struct {
		most, fuel       int
		tree, filt, want string
		left             int
		after            string
	}{
		// One thing.
		{70, 50, "[1,2,3]", ".", "fine", 49, "[1,2,3]"}, {70, 50, "[1,2,3]", "=5", "fine", 49, "5"}, {70, 50, "[1,2,3]", "=null", "fine", 49, "null"}, {70, 50, "[1,2,3]", "[1]", "fine", 49, "2"}, {70, 50, "[1,2,3]", "turn [] add . =1", "fine", 39, "[2,3,4]"}, {70, 50, "{a:5}", ".b:", "fine", 49, "null"}, {70, 50, "[7]", "[]", "fine", 49, "7"}, {70, 50, "5", "row both . .", "fine", 46, "[5,5]"}, {70, 50, "5", "try both . bad", "fine", 46, "5"}, {70, 50, "5", "make:k .", "fine", 48, "{k:5}"},
		// None, two, and more.
		{70, 50, "[1,2,3]", "none", "bad", 49, "*"}, {70, 50, "[]", "[]", "bad", 49, "*"}, {70, 50, "5", "both . .", "bad", 47, "*"}, {70, 50, "[1,2,3]", "[]", "bad", 49, "*"}, {70, 50, "[1,2]", "pipe . []", "bad", 47, "*"}, {70, 50, "[1,2]", "both =1 =1", "bad", 47, "*"}, {70, 5000, rowText(40), "[]", "bad", 4999, "*"},
		// Something bad, also behind one thing.
		{70, 50, "5", "bad", "bad", 49, "*"}, {70, 50, "5", "both =6 bad", "bad", 47, "*"}, {70, 50, "5", "add . ='a'", "bad", 47, "*"}, {70, 50, "{a:[1]}", "turn .a: bad", "bad", 47, "*"}, {70, 50, "{a:[1]}", "turn .a: []", "fine", 47, "{a:1}"}, {70, 50, "{a:[1,2]}", "turn .a: []", "bad", 47, "*"}, {70, 1, "5", "bad", "bad", 0, "*"},
		// Fuel that is just enough, one too little, and none at all; one thing ahead of where it ran out.
		{70, 3, "5", "add . =1", "fine", 0, "6"}, {70, 2, "5", "add . =1", "long", 0, "*"}, {70, 1, "5", "add . =1", "long", 0, "*"}, {70, 0, "5", "add . =1", "long", 0, "*"}, {70, 4, "5", "add . =1", "fine", 1, "6"}, {70, 2, "5", "both =6 none", "long", 0, "*"}, {70, 3, "5", "both =6 none", "fine", 0, "6"}, {70, 2, "5", "both =6 bad", "long", 0, "*"}, {70, 1, "5", "=6", "fine", 0, "6"}, {70, 0, "5", "=6", "long", 0, "*"},
		{70, 5000, "5", hungry(2), "fine", 4600, "1"}, {70, 5000, "5", hungry(3), "long", 4600, "*"}, {70, 401, "5", hungry(2), "fine", 1, "1"}, {70, 401, "5", hungry(3), "long", 1, "*"}, {70, 399, "5", hungry(2), "long", 0, "*"}, {70, 5000, rowText(41), "[]", "long", 4600, "*"}, {70, 450, rowText(41), "pipe [] =1", "long", 50, "*"},
		// Just as great as may be, and too great: a and z have a part each.
		{6, 50, "[1]", "=[1,2,3]", "fine", 49, "[1,2,3]"}, {6, 50, "[1]", "=[1,2,3,4]", "full", 49, "*"}, {6, 50, "[1]", "add . add . .", "fine", 45, "[1,1,1]"}, {6, 50, "[1]", "add . add . add . .", "full", 43, "*"}, {6, 50, "[1,2,3]", "add . .", "full", 47, "*"}, {6, 50, "[1,2,3]", ".", "fine", 49, "[1,2,3]"}, {6, 50, "[1,2,3]", "=[4,5,6]", "fine", 49, "[4,5,6]"}, {6, 50, "[1,2,3]", "row .", "full", 48, "*"}, {6, 50, "[1,2,3]", "=null", "fine", 49, "null"}, {3, 50, "5", "row .", "full", 48, "*"}, {4, 50, "5", "row .", "fine", 48, "[5]"}, {62, 50, "5", "=" + rowText(59), "fine", 49, rowText(59)}, {61, 50, "5", "=" + rowText(59), "full", 49, "*"}, {6, 1, "[1]", "=[1,2,3,4]", "full", 0, "*"}, {6, 0, "[1]", "=[1,2,3,4]", "long", 0, "*"},
		// Too great for a tree at all.
		{150, 50, rowText(40), "add . .", "bad", 47, "*"}, {150, 50, "[[[[[1]]]]]", "row .", "bad", 48, "*"}, {150, 50, "1000000", "add . =1", "bad", 47, "*"},
	} {
		after := c.after
		if after == "*" {
			after = c.tree
		}
		wantCalls(t, shelfOfAnn(c.most, c.fuel, c.tree), shelfCase{"turn ann t " + c.filt, c.want, shelfOfAnn(c.most, c.left, after)})
	}
	wantCalls(t, shelfOfAnn(70, 50, "5"), shelfCase{"turn dan t .", "none", "*"}, shelfCase{"turn ann u .", "none", "*"}, shelfCase{"turn cat a .", "none", "*"}, shelfCase{"turn - t .", "none", "*"}, shelfCase{"turn ann - .", "none", "*"}, shelfCase{"turn bob t =8", "fine", "bob 20 6 t=8; ann 70 50 a=0 t=5 z=1; cat 5 5 t=1"}, shelfCase{"turn ann z =8", "fine", "bob 20 7 t=[9]; ann 70 49 a=0 t=5 z=8; cat 5 5 t=1"}, shelfCase{"turn ann a =8", "fine", "bob 20 7 t=[9]; ann 70 49 a=8 t=5 z=1; cat 5 5 t=1"}, shelfCase{"turn cat t =[1,2,3,4,5]", "full", "bob 20 7 t=[9]; ann 70 50 a=0 t=5 z=1; cat 5 4 t=1"})
	// From turn to turn, up to what may be.
	wantScript(t, "ann 5 20 t=[1]; bob 5 20 t=[1]", shelfCase{"turn ann t add . =[2]", "fine", "ann 5 17 t=[1,2]; bob 5 20 t=[1]"}, shelfCase{"turn ann t add . .", "fine", "ann 5 14 t=[1,2,1,2]; bob 5 20 t=[1]"}, shelfCase{"turn ann t add . .", "full", "ann 5 11 t=[1,2,1,2]; bob 5 20 t=[1]"}, shelfCase{"turn ann t []", "bad", "ann 5 10 t=[1,2,1,2]; bob 5 20 t=[1]"}, shelfCase{"turn ann t len", "fine", "ann 5 9 t=4; bob 5 20 t=[1]"}, shelfCase{"put ann u [1,2,3]", "fine", "ann 5 9 t=4 u=[1,2,3]; bob 5 20 t=[1]"}, shelfCase{"turn ann t row .", "full", "ann 5 7 t=4 u=[1,2,3]; bob 5 20 t=[1]"}, shelfCase{"turn ann u [0]", "fine", "ann 5 6 t=4 u=1; bob 5 20 t=[1]"}, shelfCase{"turn ann t row .", "fine", "ann 5 4 t=[4] u=1; bob 5 20 t=[1]"}, shelfCase{"turn ann t pipe . pipe . .", "long", "ann 5 0 t=[4] u=1; bob 5 20 t=[1]"}, shelfCase{"turn bob t .", "fine", "ann 5 0 t=[4] u=1; bob 5 19 t=[1]"})
}

func TestShelfUsed(t *testing.T) {
	wantCalls(t, "ann 20 50 t=[1,2,3] u={a:1} v='x'; bob 20 3 t=[9]; cat 20 9; dan 150 0 t="+rowText(59)+" u="+rowText(59)+" v="+rowText(29),
		shelfCase{"used ann", "7", "*"}, shelfCase{"used bob", "2", "*"}, shelfCase{"used cat", "0", "*"}, shelfCase{"used dan", "150", "*"}, shelfCase{"used eve", "-1", "*"}, shelfCase{"used -", "-1", "*"}, shelfCase{"used t", "-1", "*"}, shelfCase{"used Ann", "-1", "*"}, shelfCase{"used an", "-1", "*"})
	wantCalls(t, "", shelfCase{"used ann", "-1", "*"}, shelfCase{"used -", "-1", "*"})
	wantCalls(t, "ann 4 0 t=[1,2,3]; bob 0 0", shelfCase{"used ann", "4", "*"}, shelfCase{"used bob", "0", "*"})
	for _, name := range wrongNames() {
		if n := impl.ShelfUsed(readShelf(t, good), name); n != -1 {
			t.Errorf("%q has %d", name, n)
		}
	}
	for what, s := range wrongShelves(t) {
		for _, who := range []string{"ann", "bob", "cat", "dan", "t", ""} {
			if n := impl.ShelfUsed(s, who); n != -1 {
				t.Errorf("%s: %q has %d", what, who, n)
			}
		}
	}
}

func TestShelfCodesInTheirOrder(t *testing.T) {
	bad, wrong := row(num(impl.ValMost+1)), filtOf(0)
	fullNow := "ann 4 2 a=1 b=1 c=1 d=1; bob 1 0 t=1; cat 0 0; dan 0 0"
	for _, c := range []struct {
		start string
		call  shelfCall
		want  int
	}{
		{fullNow, shelfCall{do: "join", who: "", most: 151, fuel: -1}, impl.ShelfBad}, {fullNow, shelfCall{do: "join", who: "ann", most: 151}, impl.ShelfBad}, {fullNow, shelfCall{do: "join", who: "eve", fuel: 5001}, impl.ShelfBad}, {fullNow, shelfCall{do: "join", who: "eve"}, impl.ShelfFull}, {fullNow, shelfCall{do: "join", who: "ann"}, impl.ShelfFull},
		{fullNow, shelfCall{do: "put", who: "eve", name: "", v: bad}, impl.ShelfNone}, {fullNow, shelfCall{do: "put", who: "eve", name: "t", v: wide(59)}, impl.ShelfNone}, {fullNow, shelfCall{do: "put", who: "ann", name: "", v: wide(59)}, impl.ShelfBad}, {fullNow, shelfCall{do: "put", who: "ann", name: "e", v: bad}, impl.ShelfBad}, {fullNow, shelfCall{do: "put", who: "ann", name: "a", v: bad}, impl.ShelfBad}, {fullNow, shelfCall{do: "put", who: "ann", name: "A", v: bad}, impl.ShelfBad}, {fullNow, shelfCall{do: "put", who: "ann", name: "e", v: wide(59)}, impl.ShelfFull}, {fullNow, shelfCall{do: "put", who: "ann", name: "e", v: num(1)}, impl.ShelfFull}, {fullNow, shelfCall{do: "put", who: "cat", name: "e", v: num(1)}, impl.ShelfFull},
		{fullNow, shelfCall{do: "ask", who: "eve", name: "", f: wrong, noFilt: true}, impl.ShelfNone}, {fullNow, shelfCall{do: "ask", who: "ann", name: "e", f: wrong, noFilt: true}, impl.ShelfNone}, {fullNow, shelfCall{do: "ask", who: "bob", name: "t", f: wrong, noFilt: true}, impl.ShelfBad}, {fullNow, shelfCall{do: "ask", who: "bob", name: "t", f: filtOf(impl.FiltBad)}, impl.ShelfLong}, {fullNow, shelfCall{do: "ask", who: "bob", name: "e", f: filtOf(impl.FiltBad)}, impl.ShelfNone}, {fullNow, shelfCall{do: "ask", who: "ann", name: "a", f: readFilt(t, "both bad pipe . pipe . .")}, impl.ShelfBad},
		{fullNow, shelfCall{do: "turn", who: "eve", name: "", f: wrong, noFilt: true}, impl.ShelfNone}, {fullNow, shelfCall{do: "turn", who: "ann", name: "e", f: wrong, noFilt: true}, impl.ShelfNone}, {fullNow, shelfCall{do: "turn", who: "bob", name: "t", f: wrong, noFilt: true}, impl.ShelfBad}, {fullNow, shelfCall{do: "turn", who: "bob", name: "t", f: lit(wide(59))}, impl.ShelfLong}, {fullNow, shelfCall{do: "turn", who: "bob", name: "t", f: filtOf(impl.FiltNone)}, impl.ShelfLong}, {fullNow, shelfCall{do: "turn", who: "ann", name: "a", f: readFilt(t, "both =[1] bad")}, impl.ShelfLong}, {fullNow, shelfCall{do: "turn", who: "ann", name: "a", f: lit(wide(59))}, impl.ShelfFull},
		{"ann 4 9 a=1 b=1 c=1 d=1", shelfCall{do: "turn", who: "ann", name: "a", f: readFilt(t, "both =[1] bad")}, impl.ShelfBad}, {"ann 4 9 a=1 b=1 c=1 d=1", shelfCall{do: "turn", who: "ann", name: "a", f: readFilt(t, "both =[1] =[2]")}, impl.ShelfBad}, {"ann 4 9 a=1 b=1 c=1 d=1", shelfCall{do: "turn", who: "ann", name: "a", f: readFilt(t, "both =[1] none")}, impl.ShelfFull}, {"ann 4 2 a=1 b=1 c=1 d=1", shelfCall{do: "turn", who: "ann", name: "a", f: readFilt(t, "both =2 =3")}, impl.ShelfLong},
	} {
		if told := wantCall(t, readShelf(t, c.start), c.call); told.code != c.want {
			t.Errorf("%s: %s, not %s", plainCall(c.call), shelfWords[told.code], shelfWords[c.want])
		}
	}
}

// wantNoShelf asks for what all functions answer of a shelf that is not ok.
func wantNoShelf(t *testing.T, what string, s impl.Shelf) {
	t.Helper()
	if impl.ShelfOk(s) {
		t.Errorf("%s is ok", what)
	}
	calls := []shelfCall{
		{do: "join", who: "eve", most: 1, fuel: 1}, {do: "join", who: "ann", most: 1, fuel: 1}, {do: "join", who: "", most: -1},
		{do: "put", who: "ann", name: "t", v: num(1)}, {do: "put", who: "ann", name: "new", v: num(1)}, {do: "put", who: "eve", name: "t", v: num(1)}, {do: "put", who: "ann", name: "", v: num(-impl.ValMost - 1)},
		{do: "ask", who: "ann", name: "t"}, {do: "turn", who: "eve", name: "t"},
	}
	for _, who := range []string{"ann", "bob", "cat", "eve", ""} {
		for _, name := range []string{"t", "u", "none", ""} {
			calls = append(calls, shelfCall{do: "get", who: who, name: name}, shelfCall{do: "drop", who: who, name: name}, shelfCall{do: "ask", who: who, name: name, f: filtOf(impl.FiltId)}, shelfCall{do: "turn", who: who, name: name, f: lit(num(1))})
		}
	}
	for _, c := range calls {
		told := c.told(s)
		if c.do == "get" {
			told.s = impl.Shelf{}
			told.list = slices.DeleteFunc(told.list, func(v impl.Val) bool { return equal(v, impl.Val{}) })
		}
		if told.code != impl.ShelfForm || len(told.s.Askers) != 0 || len(told.list) != 0 {
			t.Errorf("%s: %s %s %s: %d", what, c.do, c.who, c.name, told.code)
		}
	}
}

func TestShelfOfShelvesThatAreNotOk(t *testing.T) {
	for what, s := range wrongShelves(t) {
		wantNoShelf(t, what, s)
	}
}

// shelfNames are for askers and for trees; there are more of them than there may be of these.
var (
	whoNames  = []string{"ann", "bob", "cat", "dan", "eve"}
	treeNames = []string{"a", "b", "c", "d", "e"}
)

// shelf is a shelf that is ok.
func (d *dice) shelf() impl.Shelf {
	var s impl.Shelf
	for _, at := range d.order(len(whoNames))[:d.below(5)] {
		a := impl.Asker{Name: whoNames[at], Most: d.most(), Fuel: d.fuel()}
		for _, at := range d.order(len(treeNames))[:d.below(5)] {
			kept := impl.Kept{Name: treeNames[at], V: d.grown()}
			if usedModel(a.Trees)+many(kept.V) <= a.Most {
				a.Trees = append(a.Trees, kept)
			}
		}
		s.Askers = append(s.Askers, a)
	}
	return s
}

// order is all places below a number, in some order.
func (d *dice) order(n int) []int {
	var all []int
	for i := range n {
		all = slices.Insert(all, d.below(i+1), i)
	}
	return all
}

func (d *dice) most() int {
	return [...]int{0, 1, 5, 10 + d.below(20), 30 + d.below(60), 149, 150, 150}[d.below(8)]
}

func (d *dice) fuel() int {
	return [...]int{0, d.below(10), d.below(50), d.below(50), 100 + d.below(300), 399 + d.below(3), 400 + d.below(500), 5000}[d.below(8)]
}

// grown is a tree that is ok, at times a great one.
func (d *dice) grown() impl.Val {
	if d.below(6) == 0 {
		return wide(d.below(60))
	}
	return d.fruits(1)[0]
}

// growing is filters that tell one thing of many trees, at times one that is greater, and such as tell some ahead of something bad, or of much that takes fuel.
var growing = []string{
	"add . .", "row .", "row both . .", "turn [] add . =1", "=[1,2,3]", "=" + rowText(20), "=" + rowText(50), "make:a .", "turn .a: =[1]", "both . none", "turn [] row .", "=7", "[]", ".a:", "[0]", "row row row .", "make:a make:b .",
	"both . bad", "both [] bad", "both . .x:", "pipe both . bad both . .", "both . both . both . both . both . .", "both . pipe [] pipe . pipe . pipe . none", "both try [] both try [] both try [] .", "both . " + hungry(3), "both . " + hungry(0),
}

// shelfCall is a call; most are of somebody who is there.
func (d *dice) shelfCall(t *testing.T, s impl.Shelf) shelfCall {
	c := shelfCall{do: [...]string{"put", "put", "put", "get", "drop", "ask", "ask", "turn", "turn", "turn", "join", "used"}[d.below(12)], who: whoNames[d.below(5)], name: treeNames[d.below(5)]}
	if len(s.Askers) > 0 && d.below(4) > 0 {
		a := s.Askers[d.below(len(s.Askers))]
		c.who = a.Name
		if len(a.Trees) > 0 && d.below(3) > 0 {
			c.name = a.Trees[d.below(len(a.Trees))].Name
		}
	}
	if d.below(40) == 0 {
		c.who = wrongNames()[d.below(len(wrongNames())-1)]
	}
	if d.below(40) == 0 {
		c.name = wrongNames()[d.below(len(wrongNames())-1)]
	}
	c.most, c.fuel = d.most()-d.below(2), d.fuel()-d.below(2)+d.below(2)
	c.v, c.f = d.grown(), d.tame(d.filters(1)[0])
	if d.below(2) == 0 {
		c.f = readFilt(t, growing[d.below(len(growing))])
	}
	if d.below(20) == 0 {
		c.v = [...]impl.Val{{Kind: 7}, {N: 1}, str("A"), wide(60), rows(6, num(1)), num(impl.ValMost + 1), keyed([]string{"b", "a"}, num(1), num(1))}[d.below(7)]
	}
	if d.below(20) == 0 {
		c.f, c.noFilt = [...]impl.Filt{{}, {Kind: 22}, sized(17, filtOf(1)), join(impl.FiltPipe, filtOf(1)), keyOf("A"), lit(wide(60)), join(impl.FiltTurn, filtOf(impl.FiltLen), filtOf(1))}[d.below(7)], true
	}
	return c
}

// wantKept asks that just those trees are got that were put and not dropped.
func wantKept(t *testing.T, what string, s impl.Shelf, kept map[[2]string]impl.Val) {
	t.Helper()
	for _, who := range whoNames {
		for _, name := range treeNames {
			v, code := impl.ShelfGet(s, who, name)
			want, there := kept[[2]string{who, name}]
			if there != (code == impl.ShelfFine) || !equal(v, want) {
				t.Fatalf("%s: %s gets %s: %v, %d", what, who, name, v, code)
			}
		}
	}
}

func TestNobodyTouchesAnotherOne(t *testing.T) {
	d := dice(91)
	ended := map[string]int{}
	for range 500 {
		s, kept := d.shelf(), map[[2]string]impl.Val{}
		for _, a := range s.Askers {
			for _, tree := range a.Trees {
				kept[[2]string{a.Name, tree.Name}] = tree.V
			}
		}
		for range 60 {
			c := d.shelfCall(t, s)
			told := wantCall(t, s, c)
			key := [2]string{c.who, c.name}
			if told.code == impl.ShelfFine {
				switch c.do {
				case "put":
					kept[key] = c.v
				case "drop":
					delete(kept, key)
				case "turn":
					m := runModel{fuel: impl.RunFuel}
					list, _, _ := m.runOf(c.f, kept[key])
					kept[key] = list[0]
				}
			}
			wantKept(t, plainCall(c)+" of "+plainShelf(s), told.s, kept)
			if c.do != "used" {
				ended[c.do+" "+shelfWords[told.code]]++
			}
			if len(told.list) > 0 && c.do == "ask" {
				ended["ask "+shelfWords[told.code]+" with what is told"]++
			}
			s = told.s
		}
	}
	for _, what := range strings.Split("join fine,join bad,join full,put fine,put none,put full,put bad,get fine,get none,drop fine,drop none,ask fine,ask none,ask bad,ask long,ask fine with what is told,ask bad with what is told,ask long with what is told,turn fine,turn none,turn full,turn bad,turn long", ",") {
		if ended[what] < 40 {
			t.Errorf("%s only %d times", what, ended[what])
		}
	}
}

func TestNobodyTouchesAnotherOneFromCallToCall(t *testing.T) {
	d := dice(92)
	for range 150 {
		s := d.shelf()
		if len(s.Askers) == 0 {
			continue
		}
		one := s.Askers[d.below(len(s.Askers))]
		alone := impl.Shelf{Askers: []impl.Asker{one}}
		for range 60 {
			c := d.shelfCall(t, s)
			if c.do == "join" {
				continue
			}
			told := c.told(s)
			if c.who == one.Name {
				// What the others did is nothing to what one is told.
				single := c.told(alone)
				if told.code != single.code || !equalTrees(told.list, single.list) {
					t.Fatalf("%s of %s and %s: %v, and %v", plainCall(c), plainShelf(s), plainShelf(alone), told, single)
				}
				alone = single.s
			}
			s = told.s
		}
		for _, a := range s.Askers {
			if a.Name == one.Name && !equalAsker(a, alone.Askers[0]) {
				t.Fatalf("%v, and %v", a, alone.Askers[0])
			}
		}
	}
}

func TestShelfWithAllFuel(t *testing.T) {
	d := dice(93)
	for i, f := range d.filters(150) {
		f = d.tame(f)
		if i%3 == 0 {
			f = readFilt(t, growing[d.below(len(growing))])
		}
		v := d.grown()
		for fuel := range 40 {
			for _, most := range []int{many(v), many(v) + 3, 150} {
				s := impl.Shelf{Askers: []impl.Asker{{Name: "bob", Fuel: 9}, {Name: "ann", Most: most, Fuel: fuel, Trees: []impl.Kept{{Name: "t", V: v}}}}}
				wantCall(t, s, shelfCall{do: "ask", who: "ann", name: "t", f: f})
				wantCall(t, s, shelfCall{do: "turn", who: "ann", name: "t", f: f})
			}
		}
	}
}

// roomyShelf is a shelf in lists with spare room in which something lies.
func roomyShelf(s impl.Shelf) impl.Shelf {
	askers := make([]impl.Asker, 0, len(s.Askers)+2)
	for _, a := range s.Askers {
		trees := make([]impl.Kept, 0, len(a.Trees)+2)
		for _, kept := range a.Trees {
			trees = append(trees, impl.Kept{Name: kept.Name, V: roomy(kept.V)})
		}
		copy(trees[len(trees):cap(trees)], []impl.Kept{{Name: "left", V: row(num(1))}, {Name: "behind", V: row(num(2))}})
		a.Trees = trees
		askers = append(askers, a)
	}
	copy(askers[len(askers):cap(askers)], []impl.Asker{{Name: "left", Most: 5, Trees: []impl.Kept{{Name: "t", V: row(num(3))}}}, {Name: "behind"}})
	s.Askers = askers
	return s
}

// spareShelf is a copy of a shelf with all that lies behind the ends of its lists moved into them.
func spareShelf(s impl.Shelf) impl.Shelf {
	askers := slices.Clone(s.Askers[:cap(s.Askers)])
	for i, a := range askers {
		trees := slices.Clone(a.Trees[:cap(a.Trees)])
		for j := range trees {
			trees[j].V = spare(trees[j].V)
		}
		askers[i].Trees = trees
	}
	s.Askers = askers
	return s
}

// apartShelves asks that no two lists of these shelves, spare room included, lie in the same memory, and tells all their trees as filters.
func apartShelves(t *testing.T, what string, shelves ...impl.Shelf) []impl.Filt {
	t.Helper()
	var trees []impl.Filt
	askerPlaces, keptPlaces := map[*impl.Asker]bool{}, map[*impl.Kept]bool{}
	for _, s := range shelves {
		askers := s.Askers[:cap(s.Askers)]
		for i := range askers {
			if askerPlaces[&askers[i]] {
				t.Fatalf("%s: an asker lies in two lists", what)
			}
			askerPlaces[&askers[i]] = true
			list := askers[i].Trees[:cap(askers[i].Trees)]
			for j := range list {
				if keptPlaces[&list[j]] {
					t.Fatalf("%s: a tree that is kept lies in two lists", what)
				}
				keptPlaces[&list[j]] = true
				trees = append(trees, lit(list[j].V))
			}
		}
	}
	apartFilts(t, what, trees...)
	return trees
}

// soilShelf writes into all lists of a shelf, spare room included.
func soilShelf(t *testing.T, s impl.Shelf) {
	soil(apartShelves(t, "what is written into", s))
	for _, a := range s.Askers[:cap(s.Askers)] {
		fill(a.Trees[:cap(a.Trees)], impl.Kept{Name: "X"})
	}
	fill(s.Askers[:cap(s.Askers)], impl.Asker{Name: "X"})
}

// callsInMemory is calls, drawn and others, each with a shelf; some shelves are not ok, and on some one list lies in several places.
func callsInMemory(t *testing.T, d *dice) ([]impl.Shelf, []shelfCall) {
	var shelves []impl.Shelf
	var calls []shelfCall
	for range 1500 {
		s := d.shelf()
		shelves, calls = append(shelves, s), append(calls, d.shelfCall(t, s))
	}
	rich := "ann 60 60 t=[1,{a:[2]},[3]] u={a:[1],b:{c:2}}; bob 60 60 t=[1,{a:[2]},[3]]; cat 0 0"
	var shared impl.Shelf
	trees := readShelf(t, rich).Askers[0].Trees
	for _, who := range whoNames[:3] {
		shared.Askers = append(shared.Askers, impl.Asker{Name: who, Most: 90, Fuel: 60, Trees: []impl.Kept{trees[0], {Name: "u", V: row(trees[0].V, trees[0].V)}, {Name: "w", V: trees[0].V.List[1]}}})
	}
	shared.Askers[1].Trees = shared.Askers[0].Trees
	crowded := readShelf(t, rich)
	crowded.Askers = append(crowded.Askers, crowded.Askers...)
	for _, text := range []string{"join dan 5 5", "join ann 5 5", "join - 5 5", "put ann t [1,[2]]", "put ann w [1,[2]]", "put ann w " + rowText(59), "put ann - [1]", "put dan t [1]", "get ann t", "get ann u", "get dan t", "drop ann t", "drop ann u", "drop ann x", "used ann", "ask ann t .", "ask ann t both . .", "ask ann t []", "ask ann t both =[1,{a:2}] =[1,{a:2}]", "ask ann u turn .a: =[5,[6]]", "ask ann t both . bad", "ask ann t =[1]", "ask ann x .", "ask cat t .", "turn ann t .", "turn ann t =[1,[2]]", "turn ann t both . .", "turn ann t [1]", "turn ann u .a:", "turn ann t row both . .", "turn ann t add . =" + rowText(50), "turn ann t bad", "turn bob t turn [0] =[7,[8]]"} {
		for _, s := range []impl.Shelf{readShelf(t, rich), readShelf(t, strings.ReplaceAll(rich, "60 60", "60 1")), shared, crowded} {
			shelves, calls = append(shelves, s), append(calls, readCall(t, text))
		}
	}
	return shelves, calls
}

func TestShelfWritesIntoNoArgument(t *testing.T) {
	d := dice(94)
	shelves, calls := callsInMemory(t, &d)
	for i, c := range calls {
		s := roomyShelf(shelves[i])
		if i%2 == 0 {
			// With the lists as they are, one perhaps in several places.
			s = shelves[i]
		}
		c.v, c.f = roomy(c.v), roomyFilt(c.f)
		before, beforeV, beforeF := spareShelf(s), spare(c.v), spareFilt(c.f)
		told, ok, used := c.told(s), impl.ShelfOk(s), impl.ShelfUsed(s, c.who)
		if !impl.ShelfSame(s, s) {
			t.Fatalf("%s is not itself", plainShelf(s))
		}
		if !equalShelf(spareShelf(s), before) || !equal(spare(c.v), beforeV) || !equalFilt(spareFilt(c.f), beforeF) {
			t.Fatalf("%s %s %s is written into an argument", c.do, c.who, c.name)
		}
		if !equalShelfTold(c.told(s), told) || impl.ShelfOk(s) != ok || impl.ShelfUsed(s, c.who) != used {
			t.Fatalf("%s %s %s is another one the second time", c.do, c.who, c.name)
		}
	}
}

func TestShelfTellsInNewMemory(t *testing.T) {
	d := dice(95)
	shelves, calls := callsInMemory(t, &d)
	for i, c := range calls {
		what := fmt.Sprintf("%s %s %s", c.do, c.who, c.name)
		if c.do == "used" {
			continue
		}
		first := c.told(shelves[i])
		s := roomyShelf(shelves[i])
		c.v, c.f = roomy(c.v), roomyFilt(c.f)
		told, again := c.told(s), c.told(s)
		inMemory := []impl.Shelf{s, told.s, again.s}
		if c.do == "get" {
			inMemory = inMemory[:1]
		}
		all := append(apartShelves(t, what, inMemory...), c.f, lit(c.v))
		lists := []impl.Filt{lit(row(told.list...)), lit(row(again.list...))}
		apartFilts(t, what, append(all, lists...)...)
		if !equalShelfTold(told, again) || c.do != "get" && !equalShelfTold(told, first) {
			t.Fatalf("%s is another one the second time", what)
		}
		before, beforeV, beforeF := spareShelf(s), spare(c.v), spareFilt(c.f)
		// Whatever becomes of an answer, what was given and the next are as they were.
		soil(lists[:1])
		if c.do != "get" {
			soilShelf(t, told.s)
			soilShelf(t, first.s)
		}
		if !equalShelf(spareShelf(s), before) || !equal(spare(c.v), beforeV) || !equalFilt(spareFilt(c.f), beforeF) || !equalShelfTold(c.told(s), again) {
			t.Fatalf("%s lies in what is told", what)
		}
	}
}
