package tests

import (
	"fmt"
	"regexp"
	"slices"
	"strconv"
	"strings"
	"testing"

	"loop.example/cribble/impl"
)

// filtKind is what the document's table says of a kind: its word, or how that starts, how many kids it has, and which of N, S and V.
type filtKind struct {
	word string
	kids int
	has  string
}

// filtKinds are by kind, from 1 on.
var filtKinds = []filtKind{
	{}, {".", 0, ""}, {"=", 0, "V"}, {".", 0, "S"}, {"[", 0, "N"}, {"[]", 0, ""}, {"pipe", 2, ""}, {"both", 2, ""}, {"if", 3, ""},
	{"add", 2, ""}, {"less", 2, ""}, {"same", 2, ""}, {"row", 1, ""}, {"len", 0, ""}, {"keys", 0, ""}, {"not", 0, ""},
	{"else", 2, ""}, {"try", 1, ""}, {"none", 0, ""}, {"bad", 0, ""}, {"turn", 2, ""}, {"make:", 1, "S"},
}

// join is a filter of a kind that has nothing but kids.
func join(kind int, kids ...impl.Filt) impl.Filt { return impl.Filt{Kind: kind, Kids: kids} }

func lit(v impl.Val) impl.Filt { return impl.Filt{Kind: impl.FiltLit, V: v} }

func keyOf(s string) impl.Filt { return impl.Filt{Kind: impl.FiltKey, S: s} }

func placeOf(n int) impl.Filt { return impl.Filt{Kind: impl.FiltAt, N: n} }

func makes(s string, kid impl.Filt) impl.Filt {
	return impl.Filt{Kind: impl.FiltMake, S: s, Kids: []impl.Filt{kid}}
}

// filtOf is the simplest filter of a kind.
func filtOf(kind int) impl.Filt {
	f := impl.Filt{Kind: kind}
	for range filtKinds[kind].kids {
		f.Kids = append(f.Kids, join(impl.FiltId))
	}
	return f
}

// plainFilt writes a filter as the document's table says, without the program.
func plainFilt(f impl.Filt) string {
	text := filtKinds[f.Kind].word
	switch f.Kind {
	case impl.FiltLit:
		text += plain(f.V)
	case impl.FiltKey:
		text += f.S + ":"
	case impl.FiltAt:
		text += strconv.Itoa(f.N) + "]"
	case impl.FiltMake:
		text += f.S
	}
	for _, kid := range f.Kids {
		text += " " + plainFilt(kid)
	}
	return text
}

// manyParts counts parts without the program.
func manyParts(f impl.Filt) int {
	n := 1
	for _, kid := range f.Kids {
		n += manyParts(kid)
	}
	return n
}

// around is how many parts of a filter are around one another, without the program.
func around(f impl.Filt) int {
	n := 0
	for _, kid := range f.Kids {
		n = max(n, around(kid))
	}
	return n + 1
}

// looksModel says whether a filter only looks, without the program.
func looksModel(f impl.Filt) bool {
	if f.Kind == impl.FiltIf {
		return looksModel(f.Kids[1]) && looksModel(f.Kids[2])
	}
	for _, kid := range f.Kids {
		if !looksModel(kid) {
			return false
		}
	}
	return slices.Contains([]int{1, 3, 4, 5, 6, 7, 18}, f.Kind)
}

// turnsModel says whether each FiltTurn in a filter turns where something only looks, without the program.
func turnsModel(f impl.Filt) bool {
	for _, kid := range f.Kids {
		if !turnsModel(kid) {
			return false
		}
	}
	return f.Kind != impl.FiltTurn || looksModel(f.Kids[0])
}

// fitsFilt says whether a filter with the right kids and things is ok, without the program.
func fitsFilt(f impl.Filt) bool {
	return manyParts(f) <= 16 && around(f) <= 7 && turnsModel(f)
}

// equalFilt compares two filters field by field, without the program.
func equalFilt(a, b impl.Filt) bool {
	return a.Kind == b.Kind && a.N == b.N && a.S == b.S && equal(a.V, b.V) && slices.EqualFunc(a.Kids, b.Kids, equalFilt)
}

// alike asks the program whether two filters are one, both ways round.
func alike(t *testing.T, a, b impl.Filt) bool {
	t.Helper()
	got := impl.FiltAlike(a, b)
	if impl.FiltAlike(b, a) != got {
		t.Fatal("two filters are alike one way round")
	}
	return got
}

// wantFilt asks for a filter that is ok, with its text and its parts, and read back from that text, if it is not too long.
func wantFilt(t *testing.T, f impl.Filt) {
	t.Helper()
	text := plainFilt(f)
	if !impl.FiltOk(f) {
		t.Fatalf("not ok: %s", text)
	}
	if got := impl.FiltText(f); got != text {
		t.Fatalf("text %s, not %s", got, text)
	}
	if got := impl.FiltMany(f); got != manyParts(f) {
		t.Fatalf("%s has %d parts, not %d", text, got, manyParts(f))
	}
	if len(text) > 6000 {
		wantNoFiltText(t, text)
		return
	}
	back, ok := impl.FiltRead(text)
	if !ok || !equalFilt(back, f) || !alike(t, back, f) {
		t.Fatalf("%s is read as %v, %v", text, back, ok)
	}
}

// wantNoFilt asks for the answers of a filter that is not ok.
func wantNoFilt(t *testing.T, what string, f impl.Filt) {
	t.Helper()
	if impl.FiltOk(f) {
		t.Errorf("%s: ok", what)
	}
	if got := impl.FiltMany(f); got != 0 {
		t.Errorf("%s: %d parts", what, got)
	}
	if got := impl.FiltText(f); got != "" {
		t.Errorf("%s: text %s", what, got)
	}
}

// wantOkFilt asks for a filter that is ok just if that is so.
func wantOkFilt(t *testing.T, what string, f impl.Filt, ok bool) {
	t.Helper()
	if ok {
		wantFilt(t, f)
	} else {
		wantNoFilt(t, what, f)
	}
}

// wantNoFiltText asks for nothing to be read.
func wantNoFiltText(t *testing.T, text string) {
	t.Helper()
	if f, ok := impl.FiltRead(text); ok || !equalFilt(f, impl.Filt{}) {
		t.Errorf("%.80q is read as %v, %v", text, f, ok)
	}
}

// readFilt is the filter of a text that must be one.
func readFilt(t *testing.T, text string) impl.Filt {
	t.Helper()
	f, ok := impl.FiltRead(text)
	if !ok || plainFilt(f) != text {
		t.Fatalf("%q is read as %v, %v", text, f, ok)
	}
	return f
}

// filter makes a filter that is ok; room is how many parts it may have, deep how many may be around one another; looks, if it must only look.
func (d *dice) filter(room *int, deep int, looks bool) impl.Filt {
	kinds := []int{1, 2, 3, 4, 5, 13, 14, 15, 18, 19}
	if looks {
		kinds = []int{1, 3, 4, 5, 18}
	}
	if deep > 1 && *room >= 3 && d.below(5) > 0 {
		kinds = []int{6, 7, 8, 9, 10, 11, 12, 16, 17, 20, 20, 21}
		if looks {
			kinds = []int{6, 7, 8}
		}
	}
	f := impl.Filt{Kind: kinds[d.below(len(kinds))]}
	switch f.Kind {
	case impl.FiltLit:
		parts := 1 + d.below(8)
		f.V = d.tree(&parts, 1+d.below(3))
	case impl.FiltKey, impl.FiltMake:
		f.S = d.text()
	case impl.FiltAt:
		f.N = [...]int{0, 1, -1, 7, -10, impl.ValSize - 1, -impl.ValSize}[d.below(7)]
	}
	kids := filtKinds[f.Kind].kids
	*room -= kids
	for at := range kids {
		only := looks && (f.Kind != impl.FiltIf || at > 0) || f.Kind == impl.FiltTurn && at == 0
		f.Kids = append(f.Kids, d.filter(room, deep-1, only))
	}
	return f
}

// filters is so many filters that are ok.
func (d *dice) filters(n int) []impl.Filt {
	var list []impl.Filt
	for range n {
		room := d.below(impl.FiltSize)
		list = append(list, d.filter(&room, 1+d.below(impl.FiltDeep), d.below(6) == 0))
	}
	return list
}

func TestFiltOfEachKind(t *testing.T) {
	texts := []string{"", ".", "=null", ".:", "[0]", "[]", "pipe . .", "both . .", "if . . .", "add . .", "less . .", "same . .", "row .", "len", "keys", "not", "else . .", "try .", "none", "bad", "turn . .", "make: ."}
	kinds := []int{0, impl.FiltId, impl.FiltLit, impl.FiltKey, impl.FiltAt, impl.FiltEach, impl.FiltPipe, impl.FiltBoth, impl.FiltIf, impl.FiltAdd, impl.FiltLess, impl.FiltSame, impl.FiltRow, impl.FiltLen, impl.FiltKeys, impl.FiltNot, impl.FiltElse, impl.FiltTry, impl.FiltNone, impl.FiltBad, impl.FiltTurn, impl.FiltMake}
	for kind := 1; kind <= 21; kind++ {
		f := filtOf(kind)
		if kinds[kind] != kind || plainFilt(f) != texts[kind] || !equalFilt(readFilt(t, texts[kind]), f) {
			t.Errorf("kind %d is not %s", kind, texts[kind])
		}
		wantFilt(t, f)
		// Lists that are empty are as those that are none.
		empty := f
		empty.V.Keys, empty.V.List = []string{}, make([]impl.Val, 0, 3)
		if len(f.Kids) == 0 {
			empty.Kids = make([]impl.Filt, 0, 3)
		}
		wantFilt(t, empty)
		for outer := 1; outer <= 21; outer++ {
			for at := range filtKinds[outer].kids {
				whole := filtOf(outer)
				whole.Kids[at] = f
				wantOkFilt(t, plainFilt(whole), whole, turnsModel(whole))
			}
		}
	}
	if impl.FiltSize != 16 || impl.FiltDeep != 7 {
		t.Error("bounds")
	}
}

func TestFiltTextAndMany(t *testing.T) {
	for text, parts := range map[string]int{
		".": 1, "=[1,'a']": 1, "={a:[1,'x'],b:null}": 1, "=-1000000": 1, "=''": 1, "={}": 1, "={:'abcdefghijkl'}": 1, ".a:": 1, ".abcdefghijkl:": 1, ".:": 1, "[-1]": 1, "[59]": 1, "[-60]": 1, "[]": 1,
		"pipe .a: []": 3, "if . =1 none": 4, "turn pipe .a: [] add . =1": 7, "make:k row []": 3, "make: .:": 2, "make:abcdefghijkl bad": 2, "else .a: =0": 3, "try bad": 2, "row row row not": 4,
		"pipe pipe . .a: both [0] [1]": 7, "both less . =1 same .a: .b:": 7, "if if . . . if . . . if . . .": 13, ".pipe:": 1, ".make:": 1, "make:make .": 2, "make:pipe .try:": 2, "=['pipe','if']": 1, "turn none bad": 3, "turn if bad . [] turn [] len": 8,
		"pipe .items: pipe [] .n:": 5, "else try keys len": 4, "pipe [] try add . =1": 6,
	} {
		f := readFilt(t, text)
		wantFilt(t, f)
		if got := impl.FiltMany(f); got != parts {
			t.Errorf("%s has %d parts, not %d", text, got, parts)
		}
	}
	// Kids stand in their order.
	f := join(impl.FiltIf, join(impl.FiltAdd, keyOf("a"), keyOf("b")), makes("c", placeOf(-2)), lit(row(num(1), str("x"))))
	if got := impl.FiltText(f); got != "if add .a: .b: make:c [-2] =[1,'x']" || impl.FiltMany(f) != 7 || !equalFilt(readFilt(t, got), f) {
		t.Errorf("text %s, %d parts", got, impl.FiltMany(f))
	}
}

func TestFiltIsReadFromItsTextAsItWas(t *testing.T) {
	d := dice(61)
	most, deepest, turns := 0, 0, 0
	for _, f := range d.filters(20000) {
		if !fitsFilt(f) {
			t.Fatalf("%s is made too great", plainFilt(f))
		}
		wantFilt(t, f)
		most, deepest = max(most, manyParts(f)), max(deepest, around(f))
		if strings.Contains(plainFilt(f), "turn ") {
			turns++
		}
	}
	if most != 16 || deepest != 7 || turns < 1000 {
		t.Fatalf("only %d parts, %d around one another, and %d turns", most, deepest, turns)
	}
}

func TestFiltKindThatIsNone(t *testing.T) {
	for _, kind := range []int{0, -1, -2, -21, 22, 23, 100, 1<<63 - 1, -1 << 63, 256 + impl.FiltId, 1<<32 + impl.FiltId} {
		what := fmt.Sprintf("kind %d", kind)
		wantNoFilt(t, what, impl.Filt{Kind: kind})
		wantNoFilt(t, what+" with kids", join(kind, filtOf(1), filtOf(1)))
		for outer := 1; outer <= 21; outer++ {
			for at := range filtKinds[outer].kids {
				f := filtOf(outer)
				f.Kids[at] = impl.Filt{Kind: kind}
				wantNoFilt(t, what+" in another one", f)
			}
		}
	}
}

func TestFiltKids(t *testing.T) {
	for kind := 1; kind <= 21; kind++ {
		for kids := range 20 {
			f := join(kind, slices.Repeat([]impl.Filt{filtOf(impl.FiltId)}, kids)...)
			wantOkFilt(t, fmt.Sprintf("kind %d with %d kids", kind, kids), f, kids == filtKinds[kind].kids)
			wantOkFilt(t, fmt.Sprintf("kind %d with %d kids, inside", kind, kids), join(impl.FiltRow, f), kids == filtKinds[kind].kids)
		}
		wantNoFilt(t, "very many kids", join(kind, make([]impl.Filt, 100000)...))
	}
}

// notNothing is what the V of a filter may be that is not nothing.
func notNothing() []impl.Val {
	return []impl.Val{{Kind: impl.ValNo}, {Kind: impl.ValYes}, num(0), num(1), str(""), str("a"), row(), row(num(1)), keyed(nil), keyed([]string{"a"}, num(1)), {N: 1}, {S: "a"}, {Keys: []string{""}}, {List: []impl.Val{{}}}, {Kind: 99}}
}

func TestFiltHasWhatItsKindHasNot(t *testing.T) {
	for kind := 1; kind <= 21; kind++ {
		has, what := filtKinds[kind].has, fmt.Sprintf("kind %d with ", kind)
		for _, n := range []int{1, -1, 59, -60, 60, 1 << 40} {
			f := filtOf(kind)
			f.N = n
			wantOkFilt(t, what+strconv.Itoa(n), f, has == "N" && n >= -60 && n <= 59)
			wantOkFilt(t, "inside, "+what+strconv.Itoa(n), join(impl.FiltTry, f), has == "N" && n >= -60 && n <= 59)
		}
		for _, s := range []string{"a", "abcdefghijkl", "A", " ", "abcdefghijklm"} {
			f := filtOf(kind)
			f.S = s
			wantOkFilt(t, what+s, f, has == "S" && (s == "a" || s == "abcdefghijkl"))
			wantOkFilt(t, "inside, "+what+s, join(impl.FiltTry, f), has == "S" && (s == "a" || s == "abcdefghijkl"))
		}
		for _, v := range notNothing() {
			f := filtOf(kind)
			f.V = v
			good := has == "V" && v.Kind != 99 && (v.Kind != 0 || equal(v, impl.Val{}))
			wantOkFilt(t, what+"a tree", f, good)
			wantOkFilt(t, "inside, "+what+"a tree", join(impl.FiltTry, f), good)
		}
		// What it has does not make up for what it has not.
		f := filtOf(kind)
		f.N, f.S, f.V = 1, "a", num(1)
		wantNoFilt(t, what+"all", f)
		for one := range 3 {
			two := f
			switch one {
			case 0:
				two.N = 0
			case 1:
				two.S = ""
			case 2:
				two.V = impl.Val{}
			}
			wantNoFilt(t, what+"two", two)
		}
	}
}

func TestFiltLitOfTrees(t *testing.T) {
	for what, v := range treesThatAreNotOk() {
		wantNoFilt(t, what, lit(v))
		wantNoFilt(t, what+" in a filter", join(impl.FiltPipe, filtOf(impl.FiltId), join(impl.FiltRow, lit(v))))
		f := filtOf(impl.FiltLen)
		f.V = v
		wantNoFilt(t, what+" where there is none", f)
	}
	for _, v := range []impl.Val{wide(impl.ValSize - 1), rows(impl.ValDeep-1, num(1)), num(impl.ValMost), num(-impl.ValMost), str("abcdefghijkl"), keyed([]string{""}, str("")), {}} {
		wantFilt(t, lit(v))
		// The parts of its tree are none of its own, nor are they around one another in it.
		wantFilt(t, sized(impl.FiltSize, lit(v)))
	}
	d := dice(62)
	for _, v := range d.branches(300) {
		wantFilt(t, lit(v))
	}
}

func TestFiltKeysAndPlaces(t *testing.T) {
	for _, s := range []string{"", "a", "z", "abcdefghijkl", "pipe", "make", "null"} {
		wantFilt(t, keyOf(s))
		for kind := 1; kind <= 21; kind++ {
			wantFilt(t, makes(s, filtOf(kind)))
		}
	}
	for _, s := range []string{"abcdefghijklm", strings.Repeat("a", 100000), "A", "Z", "`", "{", "0", "-", " ", ":", ".", "a a", "a:", ":a", "a'", "é", "\x00", "a\xff", "\uFFFD", "aB", "a\n"} {
		for _, f := range []impl.Filt{keyOf(s), makes(s, filtOf(impl.FiltId))} {
			wantNoFilt(t, s, f)
			wantNoFilt(t, s+" inside", join(impl.FiltRow, f))
			wantNoFiltText(t, plainFilt(f))
			wantNoFiltText(t, plainFilt(join(impl.FiltRow, f)))
		}
	}
	for n := -100; n <= 100; n++ {
		f := placeOf(n)
		wantOkFilt(t, strconv.Itoa(n), f, n >= -60 && n <= 59)
		if n < -60 || n > 59 {
			wantNoFiltText(t, plainFilt(f))
			wantNoFiltText(t, plainFilt(join(impl.FiltTry, f)))
		}
	}
	for _, n := range []int{1<<63 - 1, -1 << 63, 1 << 32, 1<<32 + 5, -1 << 32} {
		wantNoFilt(t, strconv.Itoa(n), placeOf(n))
		wantNoFiltText(t, plainFilt(placeOf(n)))
	}
}

// sized is a filter of so many parts, with few of them around one another, and one of them the given leaf.
func sized(parts int, leaf impl.Filt) impl.Filt {
	switch parts {
	case 1:
		return leaf
	case 2:
		return join(impl.FiltRow, leaf)
	}
	return join(impl.FiltBoth, sized((parts-1)/2, filtOf(impl.FiltId)), sized(parts-1-(parts-1)/2, leaf))
}

func TestFiltSize(t *testing.T) {
	for parts := 1; parts <= 40; parts++ {
		f := sized(parts, filtOf(impl.FiltLen))
		if manyParts(f) != parts || around(f) > impl.FiltDeep {
			t.Fatalf("%d parts, %d around one another", manyParts(f), around(f))
		}
		wantOkFilt(t, fmt.Sprintf("%d parts", parts), f, parts <= 16)
		if parts > 16 {
			wantNoFiltText(t, plainFilt(f))
		}
	}
	ifs := filtOf(impl.FiltId)
	for range 5 {
		ifs = join(impl.FiltIf, ifs, filtOf(impl.FiltLen), filtOf(impl.FiltNot))
	}
	wantFilt(t, ifs)
	for at := range 3 {
		more := join(impl.FiltIf, ifs.Kids[0], ifs.Kids[1], ifs.Kids[2])
		more.Kids[at] = join(impl.FiltTry, more.Kids[at])
		wantNoFilt(t, "one part more", more)
		wantNoFiltText(t, plainFilt(more))
	}
}

// chain is a filter around which there are so many of FiltPipe.
func chain(many int, f impl.Filt) impl.Filt {
	for range many {
		f = join(impl.FiltPipe, filtOf(impl.FiltId), f)
	}
	return f
}

func TestFiltDeep(t *testing.T) {
	for kind := 1; kind <= 21; kind++ {
		for at := range filtKinds[kind].kids {
			for level := range impl.FiltDeep {
				for many := 5; many < 8; many++ {
					if level >= many {
						continue
					}
					f := filtOf(kind)
					f.Kids[at] = chain(many-1-level, filtOf(impl.FiltId))
					f = chain(level, f)
					if manyParts(f) > 16 || around(f) != many+1 {
						t.Fatalf("%s has %d parts", plainFilt(f), manyParts(f))
					}
					wantOkFilt(t, plainFilt(f), f, many <= 6)
					if many > 6 {
						wantNoFiltText(t, plainFilt(f))
					}
				}
			}
		}
	}
	for _, kind := range []int{impl.FiltRow, impl.FiltTry, impl.FiltMake} {
		f := filtOf(impl.FiltEach)
		for many := range 30 {
			wantOkFilt(t, fmt.Sprintf("%d around one", many), f, many <= 6)
			if many > 6 {
				wantNoFiltText(t, plainFilt(f))
			}
			f = join(kind, f)
		}
	}
}

func TestFiltTurn(t *testing.T) {
	looks := []string{
		".", ".a:", ".:", "[0]", "[-60]", "[]", "none", "pipe . .", "pipe .a: []", "both . .", "both [0] none", "if . . .", "if .a: [] none",
		"if =1 . .", "if len . .", "if keys . .", "if not . .", "if bad . .", "if add . . . .", "if less . =1 . .", "if same . . . .", "if row . . .", "if else . . . .", "if try . . .", "if turn . . . .", "if make:a . . .", "if pipe . len . .", "if if . =1 . . .",
		"pipe pipe . . pipe . .", "both pipe . [] both .a: .b:", "pipe if len . [] .a:", "both . if not none .", "if . if bad . . both . .", "if =1 pipe . .a: if =2 . .", "pipe . pipe . pipe . .",
	}
	not := []string{
		"=1", "=null", "len", "keys", "not", "bad", "row .", "try .", "make:a .", "add . .", "less . .", "same . .", "else . .", "turn . .",
		"pipe =1 .", "pipe . =1", "pipe len len", "both len .", "both . len", "both bad bad", "if . =1 .", "if . . =1", "if . len not", "if =1 . bad", "if =1 bad .",
		"pipe . pipe . =1", "pipe pipe len . .", "both . both not .", "both both . keys .", "if . pipe . len .", "if . . both bad .", "if . if . . =1 .", "if . . if . try . .", "pipe if . len . .", "both . if . . row .", "pipe . both . pipe . make:a .", "pipe turn . . .", "both . turn . .", "if . turn . . .", "if . . turn . .", "pipe . pipe . pipe . len",
	}
	for only, list := range map[bool][]string{true: looks, false: not} {
		for _, text := range list {
			first := readFilt(t, text)
			if looksModel(first) != only {
				t.Fatalf("%s only looks: %v", text, !only)
			}
			for _, second := range []string{".", "=1", "len", "add . =1", "turn . ."} {
				f := join(impl.FiltTurn, first, readFilt(t, second))
				for _, whole := range []impl.Filt{f, join(impl.FiltRow, f), join(impl.FiltIf, f, filtOf(1), filtOf(1)), join(impl.FiltTurn, filtOf(1), f), join(impl.FiltAdd, filtOf(1), f)} {
					if manyParts(whole) > 16 {
						t.Fatal(plainFilt(whole))
					}
					wantOkFilt(t, plainFilt(whole), whole, only)
					if !only {
						wantNoFiltText(t, plainFilt(whole))
					}
				}
			}
			// The second kid may be anything.
			wantFilt(t, join(impl.FiltTurn, filtOf(impl.FiltNone), first))
		}
	}
}

// filtWord is what a word may be whose kind has more than kids.
var filtWord = regexp.MustCompile(`^(?:=(.*)|\.([a-z]{0,12}):|\[(0|-?[1-9][0-9]{0,3})\]|make:([a-z]{0,12}))$`)

// partModel is the part of a word, without kids, and without the program but for ValRead.
func partModel(word string) (impl.Filt, bool) {
	for kind, k := range filtKinds {
		if kind > 0 && k.has == "" && k.word == word {
			return impl.Filt{Kind: kind}, true
		}
	}
	m := filtWord.FindStringSubmatch(word)
	switch {
	case m == nil:
		return impl.Filt{}, false
	case word[0] == '=':
		v, ok := impl.ValRead(m[1])
		return lit(v), ok
	case word[0] == '.':
		return keyOf(m[2]), true
	case word[0] == '[':
		n, err := strconv.Atoi(m[3])
		return placeOf(n), err == nil && n >= -60 && n <= 59
	}
	return impl.Filt{Kind: impl.FiltMake, S: m[4]}, true
}

// readModel is the filter of a text: from the last word on, each takes what stands behind it as its kids.
func readModel(text string) (impl.Filt, bool) {
	words := strings.Split(text, " ")
	var stack []impl.Filt
	for _, word := range slices.Backward(words) {
		f, ok := partModel(word)
		kids := filtKinds[f.Kind].kids
		if !ok || kids > len(stack) {
			return impl.Filt{}, false
		}
		for range kids {
			f.Kids = append(f.Kids, stack[len(stack)-1])
			stack = stack[:len(stack)-1]
		}
		stack = append(stack, f)
	}
	if len(text) > 6000 || len(stack) != 1 || !fitsFilt(stack[0]) {
		return impl.Filt{}, false
	}
	return stack[0], true
}

// wantReadAs asks that a text is read as the model does, and says whether it is.
func wantReadAs(t *testing.T, text string) bool {
	t.Helper()
	want, can := readModel(text)
	got, ok := impl.FiltRead(text)
	if ok != can || !equalFilt(got, want) {
		t.Fatalf("%.200q is read as %v, %v", text, got, ok)
	}
	if ok && (plainFilt(got) != text || impl.FiltText(got) != text) {
		t.Fatalf("%q is read as %q", text, plainFilt(got))
	}
	return ok
}

// allTexts asks how all texts of so many pieces are read, and says how many are.
func allTexts(t *testing.T, pieces []string, most int, between string) int {
	t.Helper()
	n := 0
	var try func(text string, left int)
	try = func(text string, left int) {
		if wantReadAs(t, text) {
			n++
		}
		for _, piece := range pieces {
			if left > 0 && text == "" {
				try(piece, left-1)
			} else if left > 0 {
				try(text+between+piece, left-1)
			}
		}
	}
	try("", most)
	return n
}

func TestFiltReadsJustTheTexts(t *testing.T) {
	var words []string
	for kind := 1; kind <= 21; kind++ {
		words = append(words, strings.Split(plainFilt(filtOf(kind)), " ")[0])
	}
	if n := allTexts(t, words, 4, " "); n < 1500 {
		t.Errorf("only %d of all words", n)
	}
	if n := allTexts(t, []string{".", "len", "pipe", "if", "turn"}, 7, " "); n < 400 {
		t.Errorf("only %d of few words", n)
	}
	if n := allTexts(t, []string{".", "[", "]", ":", "=", "-", "0", "1", "a", " ", "try "}, 5, ""); n < 80 {
		t.Errorf("only %d of few letters", n)
	}
}

func TestFiltReadsWhatIsNearATextOnlyAsItself(t *testing.T) {
	d := dice(63)
	for _, f := range d.filters(150) {
		text := impl.FiltText(f)
		for at := 0; at <= len(text); at++ {
			wantReadAs(t, text[:at])
			for _, c := range []string{"", " ", ".", ":", "[", "]", "=", "'", ",", "0", "-", "a", "A", "\xff", "\n", "\t", ". ", " .", "try "} {
				wantReadAs(t, text[:at]+c+text[at:])
				wantReadAs(t, text[:at]+c+text[min(at+1, len(text)):])
			}
		}
	}
}

func TestFiltReadsNoOtherText(t *testing.T) {
	texts := []string{
		// Words that are none.
		"", "fly", "Pipe", "pip", "pipes", "id", "..", "...", ":", "=", "[", "]", "[[]]", "[][]", "make", "make:", "make:a", "null", "1", "'a'", "\x00", "\xff", "\uFFFD", ".\x00", ".a", "a:", "a", "{}", "-", "0", "$", "$.a",
		// A kid that is not there.
		"pipe", "pipe .", "both .", "if", "if .", "if . .", "add .", "less .", "same .", "row", "else .", "try", "turn", "turn .", "pipe pipe . .", "if . pipe . .", "row row",
		// Something behind the end.
		". .", "len len", "=1 .", ".a: .", "[0] [0]", "[] []", "pipe . . .", "if . . . .", "row . .", "try . try .", "make:a . .", "none bad", ". fly", ". =",
		// Spaces.
		" ", "  ", " .", ". ", "pipe  . .", "pipe .  .", " pipe . .", "pipe . . ", "pipe\t. .", "pipe\n. .", ".\n", "\n.", "pipe .\u00a0.", "pipe . .\r", "make: a .", "make:a  .", "= 1", "=[1, 2]", "[ 0]", "[0 ]", ". a:",
		// Numbers, places, keys and trees that are none.
		"[01]", "[00]", "[-0]", "[-01]", "[+1]", "[60]", "[-61]", "[1.0]", "[1e1]", "[a]", "[-]", "[--1]", "[0x1]", "[1_0]", "[99999999999999999999]", "[-99999999999999999999]", "[4294967296]", "[0", "0]", "[0]]", "[[0]", "[0][0]", "[٣]", "[１]",
		".A:", ".a", ".a::", "..a:", ".a.b:", ".a:b", ".a:b:", ".1:", ".-:", ".é:", ".\xff:", ".abcdefghijklm:", ".a :", ".'a':", "::", ".[]", ".[0]",
		"make:A .", "make:1 .", "make::a .", "make:a: .", "make:.a .", "make:abcdefghijklm .", "make .", "makea .", "make:é .", "Make:a .", "make:'a' .",
		"=01", "=-0", "=1000001", "=-1000001", "='A'", "='abcdefghijklm'", "={b:1,a:2}", "={a:1,a:1}", "=[1", "=[1,]", "=nul", "==1", "=.", "=1=", "=" + plain(wide(impl.ValSize)), "=" + plain(rows(impl.ValDeep, num(1))),
		// Turns of what does not only look.
		"turn =1 .", "turn len .", "turn bad .", "turn row . .", "turn pipe . len .", "turn if . . =1 .", "row turn =1 .", "turn turn . . .",
		// Too great, too deep, and both.
		"row row row row row row row .", strings.Repeat("both . ", 8) + ".", strings.Repeat("if . . ", 5) + "row .", strings.Repeat("try ", 1400) + ".", strings.Repeat("if ", 1900), strings.Repeat(". ", 2900), strings.Repeat(".", 5999),
	}
	for _, text := range texts {
		wantNoFiltText(t, text)
		if wantReadAs(t, text) {
			t.Errorf("%q is read", text)
		}
	}
	// What is wrong in a kid is wrong in all.
	for _, text := range texts[:30] {
		wantNoFiltText(t, "pipe . "+text)
		wantNoFiltText(t, "pipe "+text+" .")
		wantNoFiltText(t, "if . "+text+" .")
	}
}

// ofBytes is a map whose text has so many bytes, 945 to 1653.
func ofBytes(bytes int) impl.Val {
	v, left := keyed(nil), bytes-945
	for i := range impl.ValSize - 1 {
		letters := min(left, impl.ValLong)
		left -= letters
		v.Keys = append(v.Keys, strings.Repeat("y", impl.ValLong-2)+wideKeys(i + 1)[i])
		v.List = append(v.List, str(strings.Repeat("q", letters)))
	}
	return v
}

// filtOfBytes is a filter whose text has so many bytes, some 4000 to 6600.
func filtOfBytes(t *testing.T, bytes int) impl.Filt {
	t.Helper()
	trees := bytes - len("both both both = = = =")
	f := lit(ofBytes(trees - 3*(trees/4)))
	for range 3 {
		f = join(impl.FiltBoth, f, lit(ofBytes(trees/4)))
	}
	if len(plainFilt(f)) != bytes {
		t.Fatalf("%d bytes, not %d", len(plainFilt(f)), bytes)
	}
	return f
}

func TestFiltOfLongTexts(t *testing.T) {
	for bytes := 5990; bytes < 6010; bytes++ {
		f := filtOfBytes(t, bytes)
		wantFilt(t, f)
		got, ok := impl.FiltRead(plainFilt(f))
		if ok != (bytes <= 6000) || ok && !equalFilt(got, f) {
			t.Errorf("%d bytes are read: %v", bytes, ok)
		}
	}
	wantFilt(t, filtOfBytes(t, 4500))
	wantFilt(t, filtOfBytes(t, 6600))
	// The longest text that a filter has.
	most := lit(ofBytes(1653))
	longest := join(impl.FiltTry, sized(7, most))
	for range 3 {
		longest = join(impl.FiltBoth, most, longest)
	}
	wantFilt(t, longest)
	for _, bytes := range []int{5999, 6000, 6001, 1 << 20} {
		for _, piece := range []string{".", " ", "[", "]", ":", "=", "a", "0", "\xff", ". ", "try ", "pipe ", "if ", "=[", "make:", "pipe . "} {
			wantNoFiltText(t, strings.Repeat(piece, bytes/len(piece)))
			wantNoFiltText(t, strings.Repeat(piece, bytes/len(piece)+1)[:bytes])
			wantNoFiltText(t, strings.Repeat(piece, bytes/len(piece))+".")
		}
	}
}

// turnedParts is filters that are like one but for a single part of it, at each place in it.
func turnedParts(f impl.Filt) []impl.Filt {
	var list []impl.Filt
	add := func(turn func(*impl.Filt)) {
		g := cloneFilt(f)
		turn(&g)
		list = append(list, g)
	}
	add(func(g *impl.Filt) { g.Kind++ })
	add(func(g *impl.Filt) { g.Kind -= 100 })
	add(func(g *impl.Filt) { g.N++ })
	add(func(g *impl.Filt) { g.N = -g.N - 1<<40 })
	add(func(g *impl.Filt) { g.S += "a" })
	add(func(g *impl.Filt) { g.S += "\xff" })
	add(func(g *impl.Filt) { g.V.Kind++ })
	add(func(g *impl.Filt) { g.V.N++ })
	add(func(g *impl.Filt) { g.V.S += "a" })
	add(func(g *impl.Filt) { g.V.Keys = append(g.V.Keys, "") })
	add(func(g *impl.Filt) { g.V.List = append(g.V.List, impl.Val{}) })
	add(func(g *impl.Filt) { g.V = row(g.V) })
	add(func(g *impl.Filt) { g.Kids = append(g.Kids, impl.Filt{}) })
	add(func(g *impl.Filt) { g.Kids = slices.Insert(g.Kids, 0, filtOf(impl.FiltId)) })
	if len(f.V.List) > 0 {
		add(func(g *impl.Filt) { g.V.List[len(g.V.List)-1].N += 5 })
	}
	if len(f.Kids) > 0 {
		add(func(g *impl.Filt) { g.Kids = g.Kids[1:] })
		add(func(g *impl.Filt) { g.Kids = g.Kids[:len(g.Kids)-1] })
		add(func(g *impl.Filt) { g.Kids = nil })
	}
	for at, kid := range f.Kids {
		for _, turned := range turnedParts(kid) {
			add(func(g *impl.Filt) { g.Kids[at] = turned })
		}
	}
	return list
}

// cloneFilt is a filter in memory of its own, spare room included.
func cloneFilt(f impl.Filt) impl.Filt {
	kids := make([]impl.Filt, 0, cap(f.Kids))
	for _, kid := range f.Kids[:cap(f.Kids)] {
		kids = append(kids, cloneFilt(kid))
	}
	f.V, f.Kids = clone(f.V), kids[:len(f.Kids)]
	return f
}

func TestFiltAlike(t *testing.T) {
	d := dice(64)
	list := d.filters(150)
	for kind := -1; kind <= 22; kind++ {
		list = append(list, impl.Filt{Kind: kind}, impl.Filt{Kind: kind, N: 3, S: "A b", V: impl.Val{Kind: 77, N: 1, S: "B", Keys: []string{"x"}, List: []impl.Val{{}, {}}}, Kids: []impl.Filt{{Kind: 99}, {}, {N: 5}, {}, {}}})
	}
	list = append(list, sized(40, filtOf(impl.FiltLen)), chain(30, lit(rows(20, wide(70)))), join(impl.FiltTurn, filtOf(impl.FiltLen)))
	for _, f := range list {
		if !alike(t, f, f) || !alike(t, f, cloneFilt(f)) || !alike(t, f, roomyFilt(f)) {
			t.Fatalf("%v is not alike itself", f)
		}
		for _, g := range turnedParts(f) {
			if equalFilt(f, g) || alike(t, f, g) {
				t.Fatalf("%v and %v are alike", f, g)
			}
		}
	}
	for _, a := range list {
		for _, b := range list {
			if alike(t, a, b) != equalFilt(a, b) {
				t.Fatalf("%v and %v are alike: %v", a, b, !equalFilt(a, b))
			}
		}
	}
	// Kids in another order, or in another place.
	for _, c := range [][2]string{{"pipe . []", "pipe [] ."}, {"if . len not", "if . not len"}, {"if . len not", "if len . not"}, {"pipe . pipe . .", "pipe pipe . . ."}, {"row try .", "try row ."}, {".a:", "make:a ."}, {"=0", "[0]"}, {"=null", "."}, {".:", "."}, {"[0]", "[]"}, {"make: .", "row ."}, {"='a'", ".a:"}, {"both . .", "pipe . ."}, {"=[]", "={}"}, {"=[1,2]", "=[2,1]"}} {
		if alike(t, readFilt(t, c[0]), readFilt(t, c[1])) {
			t.Errorf("%s and %s are alike", c[0], c[1])
		}
	}
	// Lists that are empty and those that are none.
	empty := impl.Filt{V: impl.Val{Keys: []string{}, List: []impl.Val{}}, Kids: []impl.Filt{}}
	if !alike(t, impl.Filt{}, empty) || !alike(t, join(3, impl.Filt{}), join(3, empty)) || alike(t, empty, join(0, empty)) {
		t.Error("empty lists")
	}
}

// roundFilt is a filter all of whose kids, so many, are itself.
func roundFilt(kind, many int) impl.Filt {
	kids := make([]impl.Filt, many)
	for i := range kids {
		kids[i] = impl.Filt{Kind: kind, Kids: kids}
	}
	return impl.Filt{Kind: kind, Kids: kids}
}

func TestFiltOfKidsThatHoldThemselves(t *testing.T) {
	for kind := -1; kind <= 22; kind++ {
		for many := 1; many <= 4; many++ {
			f := roundFilt(kind, many)
			wantNoFilt(t, "a filter that holds itself", f)
			wantNoFilt(t, "a filter around one that holds itself", join(impl.FiltTurn, f, f))
			// One that holds itself at once, and one that does only further in, are the same in all parts.
			once := impl.Filt{Kind: kind, Kids: slices.Clone(f.Kids)}
			if !alike(t, f, f) || !alike(t, f, roundFilt(kind, many)) || !alike(t, f, once) {
				t.Error("a filter that holds itself is not alike itself")
			}
			other := roundFilt(kind, many)
			other.Kids[many-1] = impl.Filt{Kind: kind, N: 1, Kids: other.Kids}
			if alike(t, f, other) || alike(t, f, roundFilt(kind+1, many)) || alike(t, f, roundFilt(kind, many+1)) || alike(t, f, impl.Filt{}) {
				t.Error("filters that hold themselves are alike")
			}
		}
	}
	// Rings of several filters: they are the same in all parts just if each is.
	ring := func(marks ...int) impl.Filt {
		lists := make([][]impl.Filt, len(marks))
		for i := range lists {
			lists[i] = make([]impl.Filt, 1)
		}
		for i, n := range marks {
			lists[i][0] = impl.Filt{Kind: impl.FiltTry, N: n, Kids: lists[(i+1)%len(lists)]}
		}
		return join(impl.FiltTry, lists[0][0])
	}
	long := make([]int, 101)
	if !alike(t, ring(0, 1), ring(0, 1, 0, 1)) || !alike(t, ring(0, 0, 0), ring(0, 0)) || !alike(t, ring(long...), ring(long[:97]...)) || alike(t, ring(0, 1), ring(0, 1, 0)) {
		t.Error("rings")
	}
	long[100] = 1
	if alike(t, ring(long...), ring(0)) || alike(t, ring(long...), ring(long[:100]...)) || !alike(t, ring(long...), ring(slices.Repeat(long, 3)...)) {
		t.Error("long rings")
	}
	// A tree that holds itself in a filter.
	if v, w := lit(round(2)), lit(round(3)); !alike(t, v, lit(round(2))) || alike(t, v, w) || !alike(t, chain(20, v), chain(20, v)) || alike(t, chain(20, v), chain(20, w)) {
		t.Error("trees that hold themselves")
	}
}

// tries is a filter around which there are so many of FiltTry.
func tries(many int, f impl.Filt) impl.Filt {
	for range many {
		f = join(impl.FiltTry, f)
	}
	return f
}

func TestFiltPastAllBounds(t *testing.T) {
	deep, other := tries(300000, filtOf(impl.FiltId)), tries(300000, filtOf(impl.FiltEach))
	wantNoFilt(t, "a very deep filter", deep)
	wantNoFilt(t, "a very deep filter in one", join(impl.FiltPipe, filtOf(impl.FiltId), deep))
	if !alike(t, deep, tries(300000, filtOf(impl.FiltId))) || alike(t, deep, other) || alike(t, deep, tries(299999, filtOf(impl.FiltId))) {
		t.Error("very deep filters")
	}
	broad := join(impl.FiltBoth, make([]impl.Filt, 300000)...)
	wantNoFilt(t, "a very broad filter", broad)
	last := join(impl.FiltBoth, make([]impl.Filt, 300000)...)
	if !alike(t, broad, last) {
		t.Error("very broad filters")
	}
	last.Kids[299999].S = "a"
	if alike(t, broad, last) {
		t.Error("very broad filters with another last kid")
	}
	// One list in the place of two, many times over: as many parts as no one can go through one by one.
	double := func(leaf impl.Filt) impl.Filt {
		f := leaf
		for range 100 {
			kids := []impl.Filt{f, f}
			f = join(impl.FiltBoth, kids...)
		}
		return f
	}
	wantNoFilt(t, "a filter doubled many times", double(filtOf(impl.FiltId)))
	if !alike(t, double(filtOf(impl.FiltId)), double(filtOf(impl.FiltId))) || alike(t, double(filtOf(impl.FiltId)), double(filtOf(impl.FiltEach))) {
		t.Error("filters doubled many times")
	}
	wantNoFilt(t, "a long text", keyOf(strings.Repeat("a", 1<<22)))
}

func TestFiltOfKidsThatAreThereTwice(t *testing.T) {
	kids := []impl.Filt{keyOf("a"), lit(row(num(1), num(2)))}
	pair := join(impl.FiltAdd, kids...)
	f := join(impl.FiltIf, pair, pair, impl.Filt{Kind: impl.FiltLess, Kids: kids})
	wantFilt(t, f)
	if !alike(t, f, readFilt(t, "if add .a: =[1,2] add .a: =[1,2] less .a: =[1,2]")) {
		t.Error("one list in the place of several")
	}
	// Lists of other lengths that start at one place.
	long := []impl.Filt{filtOf(1), filtOf(1), filtOf(1)}
	a := join(impl.FiltBoth, join(impl.FiltBoth, long[:2]...), join(impl.FiltRow, long[:1]...))
	b := join(impl.FiltBoth, join(impl.FiltBoth, long[:2]...), join(impl.FiltRow, long[:2]...))
	wantFilt(t, a)
	wantNoFilt(t, "a kid too many", b)
	if alike(t, a, b) || alike(t, chain(30, a), chain(30, b)) || !alike(t, chain(30, a), chain(30, cloneFilt(a))) {
		t.Error("lists that start at one place")
	}
	// A filter past the bounds in which one pair of lists is there again, with another tree behind it.
	many := join(impl.FiltBoth, slices.Repeat([]impl.Filt{pair}, 50)...)
	more := cloneFilt(many)
	more.Kids[49].Kids[1].V.List[1].N = 3
	if alike(t, many, more) || !alike(t, many, cloneFilt(many)) {
		t.Error("a list that is there often")
	}
}

// roomyFilt is a filter in lists with spare room in which something lies.
func roomyFilt(f impl.Filt) impl.Filt {
	kids := make([]impl.Filt, 0, len(f.Kids)+2)
	for _, kid := range f.Kids {
		kids = append(kids, roomyFilt(kid))
	}
	copy(kids[len(kids):cap(kids)], []impl.Filt{keyOf("left"), placeOf(77)})
	f.V, f.Kids = roomy(f.V), kids
	return f
}

// spareFilt is a copy of a filter with all that lies behind the ends of its lists moved into them.
func spareFilt(f impl.Filt) impl.Filt {
	f = cloneFilt(f)
	f.V, f.Kids = spare(f.V), f.Kids[:cap(f.Kids)]
	for i := range f.Kids {
		f.Kids[i] = spareFilt(f.Kids[i])
	}
	return f
}

// inFilt calls with each part of a filter.
func inFilt(f impl.Filt, part func(impl.Filt)) {
	for _, kid := range f.Kids {
		inFilt(kid, part)
	}
	part(f)
}

// apartFilts asks that no two lists of these filters, spare room included, lie in the same memory.
func apartFilts(t *testing.T, what string, filters ...impl.Filt) {
	t.Helper()
	var trees []impl.Val
	places := map[*impl.Filt]bool{}
	for _, f := range filters {
		inFilt(f, func(part impl.Filt) {
			trees = append(trees, part.V)
			kids := part.Kids[:cap(part.Kids)]
			for i := range kids {
				if places[&kids[i]] {
					t.Fatalf("%s: a filter lies in two lists", what)
				}
				places[&kids[i]] = true
			}
		})
	}
	apart(t, what, trees...)
}

func TestFiltWritesIntoNoArgument(t *testing.T) {
	d := dice(65)
	list := append(d.filters(1500), sized(16, lit(wide(59))), sized(17, lit(wide(59))), join(impl.FiltTurn, filtOf(impl.FiltLen), lit(row())), impl.Filt{Kind: 99, V: num(3), Kids: []impl.Filt{{}}})
	for _, f := range list {
		f, g := roomyFilt(f), roomyFilt(f)
		beforeF, beforeG := spareFilt(f), spareFilt(g)
		ok, n, text := impl.FiltOk(f), impl.FiltMany(f), impl.FiltText(f)
		if !impl.FiltAlike(f, g) {
			t.Fatalf("%s is not alike itself", text)
		}
		if !equalFilt(spareFilt(f), beforeF) || !equalFilt(spareFilt(g), beforeG) {
			t.Fatalf("written into %s", text)
		}
		if impl.FiltOk(f) != ok || impl.FiltMany(f) != n || impl.FiltText(f) != text {
			t.Fatalf("%s is another one the second time", text)
		}
	}
}

func TestFiltReadsIntoNewMemory(t *testing.T) {
	d := dice(66)
	for _, f := range append(d.filters(1500), sized(16, lit(wide(59))), filtOfBytes(t, 6000), readFilt(t, "both both =[1,{a:2}] =[1,{a:2}] both make:a =[] =[1,{a:2}]")) {
		text := plainFilt(f)
		first, second := readFilt(t, text), readFilt(t, text)
		apartFilts(t, text, first, second, f)
		// Whatever becomes of one answer, the next is as it was.
		inFilt(first, func(part impl.Filt) {
			lists(part.V, func(keys []string) { fill(keys, "X") }, func(list []impl.Val) { fill(list, impl.Val{Kind: 99}) })
			fill(part.Kids[:cap(part.Kids)], impl.Filt{Kind: 99})
		})
		if !equalFilt(second, f) || !equalFilt(readFilt(t, text), f) {
			t.Fatalf("%s is another one the second time", text)
		}
	}
}
