package tests

import (
	"fmt"
	"math"
	"slices"
	"strconv"
	"strings"
	"testing"

	"loop.example/cribble/impl"
)

// codeWords are the words of the codes here.
var codeWords = []string{"fine", "bad", "long", "form"}

// plainTask writes a task: its tree, and what waits for it.
func plainTask(task impl.Task) string {
	var todo []string
	for _, f := range task.Todo {
		todo = append(todo, plainFilt(f))
	}
	if len(todo) == 0 {
		return plain(task.V)
	}
	return plain(task.V) + " <- " + strings.Join(todo, " & ")
}

// plainGen writes a Gen: its fuel, its code, and its tasks, the one that is done next last.
func plainGen(g impl.Gen) string {
	parts := []string{strconv.Itoa(g.Fuel) + " " + codeWords[g.Code]}
	for _, task := range g.Tasks {
		parts = append(parts, plainTask(task))
	}
	return strings.Join(parts, "; ")
}

// readGen reads what plainGen writes.
func readGen(t *testing.T, text string) impl.Gen {
	t.Helper()
	parts := strings.Split(text, "; ")
	fuel, code, _ := strings.Cut(parts[0], " ")
	g := impl.Gen{Code: slices.Index(codeWords, code)}
	g.Fuel, _ = strconv.Atoi(fuel)
	for _, part := range parts[1:] {
		tree, todo, waits := strings.Cut(part, " <- ")
		task := impl.Task{V: read(t, tree)}
		if waits {
			for _, f := range strings.Split(todo, " & ") {
				task.Todo = append(task.Todo, readFilt(t, f))
			}
		}
		g.Tasks = append(g.Tasks, task)
	}
	if plainGen(g) != text {
		t.Fatalf("%q is read as %q", text, plainGen(g))
	}
	return g
}

func equalTask(a, b impl.Task) bool {
	return equal(a.V, b.V) && slices.EqualFunc(a.Todo, b.Todo, equalFilt)
}

// equalGen compares field by field, without the program.
func equalGen(a, b impl.Gen) bool {
	return a.Fuel == b.Fuel && a.Code == b.Code && slices.EqualFunc(a.Tasks, b.Tasks, equalTask)
}

// equalTrees compares lists of trees field by field, without the program.
func equalTrees(a, b []impl.Val) bool { return slices.EqualFunc(a, b, equal) }

// plainRun writes what Run tells, but for the fuel.
func plainRun(list []impl.Val, code int) string {
	var texts []string
	for _, v := range list {
		texts = append(texts, plain(v))
	}
	return strings.Join(append(texts, codeWords[code]), " ")
}

// oneByOne is all that GenNext tells of GenOpen, as Run must tell it.
func oneByOne(t *testing.T, f impl.Filt, v impl.Val, fuel int) ([]impl.Val, int, int) {
	t.Helper()
	g := impl.GenOpen(f, v, fuel)
	var list []impl.Val
	for {
		next, x, ok := impl.GenNext(g)
		if !impl.GenOk(g) || !impl.GenOk(next) {
			t.Fatalf("%s of %s comes by a Gen that is not ok", plainFilt(f), plain(v))
		}
		g = next
		if !ok {
			if !equal(x, impl.Val{}) || len(g.Tasks) > 0 {
				t.Fatalf("%s of %s: nothing is told, but %v, beside %v", plainFilt(f), plain(v), x, g.Tasks)
			}
			return list, g.Code, g.Fuel
		}
		if len(list) == 40 {
			return list, impl.RunLong, 0
		}
		list = append(list, x)
	}
}

// wantRun asks that all at once, one by one, and the model, tell the same, with so much fuel.
func wantRun(t *testing.T, f impl.Filt, v impl.Val, fuel int) ([]impl.Val, int, int) {
	t.Helper()
	what := fmt.Sprintf("%s of %s with %d", plainFilt(f), plain(v), fuel)
	list, code, left := impl.Run(f, v, fuel)
	single, singleCode, singleLeft := oneByOne(t, f, v, fuel)
	if !equalTrees(list, single) || code != singleCode || left != singleLeft {
		t.Fatalf("%s: all at once %s %d, one by one %s %d", what, plainRun(list, code), left, plainRun(single, singleCode), singleLeft)
	}
	m := runModel{fuel: fuel}
	want, wantCode, wantLeft := m.runOf(f, v)
	if !equalTrees(list, want) || code != wantCode || left != wantLeft {
		t.Fatalf("%s: %s %d, not %s %d", what, plainRun(list, code), left, plainRun(want, wantCode), wantLeft)
	}
	for _, x := range list {
		if !fits(x) || !impl.ValOk(x) {
			t.Fatalf("%s tells %v, which is not ok", what, x)
		}
	}
	return list, code, left
}

// wantAllFuel is wantRun with all the fuel there may be; with just as much as that takes it ends the same, and with less it runs out.
func wantAllFuel(t *testing.T, f impl.Filt, v impl.Val) ([]impl.Val, int, int) {
	t.Helper()
	list, code, left := wantRun(t, f, v, impl.RunFuel)
	if code == impl.RunLong {
		if left != 0 {
			t.Fatalf("%s of %s ran out of fuel, and %d is left", plainFilt(f), plain(v), left)
		}
		return list, code, left
	}
	took := impl.RunFuel - left
	for _, fuel := range []int{took, took + 1, impl.RunFuel - 1} {
		if fuel < took || fuel > impl.RunFuel {
			continue
		}
		again, againCode, againLeft := wantRun(t, f, v, fuel)
		if !equalTrees(again, list) || againCode != code || againLeft != fuel-took {
			t.Fatalf("%s of %s with %d: %s %d", plainFilt(f), plain(v), fuel, plainRun(again, againCode), againLeft)
		}
	}
	for fuel := range took {
		// Where it takes much, the first and the last steps are enough.
		if took > 40 && fuel > 10 && fuel < took-10 {
			continue
		}
		some, someCode, someLeft := wantRun(t, f, v, fuel)
		if someCode != impl.RunLong || someLeft != 0 || len(some) > len(list) || !equalTrees(some, list[:len(some)]) {
			t.Fatalf("%s of %s with %d: %s %d", plainFilt(f), plain(v), fuel, plainRun(some, someCode), someLeft)
		}
	}
	return list, code, left
}

// runCase is a filter, a tree, what is told, how it ended, and, if that is not long, how much fuel that took.
type runCase struct{ filt, tree, want string }

// wantTold asks for what all cases want, and for that alone, all at once and as the one thing.
func wantTold(t *testing.T, cases []runCase) {
	t.Helper()
	for _, c := range cases {
		f, v := readFilt(t, c.filt), read(t, c.tree)
		list, code, left := wantAllFuel(t, f, v)
		got := plainRun(list, code)
		if code != impl.RunLong {
			got += " " + strconv.Itoa(impl.RunFuel-left)
		}
		if got != c.want {
			t.Errorf("%s of %s tells %s, not %s", c.filt, c.tree, got, c.want)
		}
		one, ok := impl.RunOne(f, v)
		if single := code == impl.RunFine && len(list) == 1; ok != single || single && !equal(one, list[0]) || !single && !equal(one, impl.Val{}) {
			t.Errorf("%s of %s tells as one thing %v, %v", c.filt, c.tree, one, ok)
		}
	}
}

// rowText is the text of a row of so many ones.
func rowText(many int) string {
	return "[" + strings.TrimSuffix(strings.Repeat("1,", many), ",") + "]"
}

// told writes so many things that are told alike, with a space behind each.
func told(many int, text string) string { return strings.Repeat(text+" ", many) }

func TestRunOfKindsWithoutKids(t *testing.T) {
	trees := []string{"null", "false", "true", "5", "-7", "''", "'abc'", "[]", "[1,[2],'x']", "{}", "{a:1,b:[2]}", "{:3}"}
	for filt, wants := range map[string][]string{
		".":    trees,
		"=[9]": {"[9]", "[9]", "[9]", "[9]", "[9]", "[9]", "[9]", "[9]", "[9]", "[9]", "[9]", "[9]"},
		".a:":  {"null", "!", "!", "!", "!", "!", "!", "!", "!", "null", "1", "null"},
		".:":   {"null", "!", "!", "!", "!", "!", "!", "!", "!", "null", "null", "3"},
		"[1]":  {"null", "!", "!", "!", "!", "!", "!", "null", "[2]", "!", "!", "!"},
		"[-1]": {"null", "!", "!", "!", "!", "!", "!", "null", "'x'", "!", "!", "!"},
		"[-4]": {"null", "!", "!", "!", "!", "!", "!", "null", "null", "!", "!", "!"},
		"[59]": {"null", "!", "!", "!", "!", "!", "!", "null", "null", "!", "!", "!"},
		"[]":   {"!", "!", "!", "!", "!", "!", "!", "", "1 [2] 'x'", "", "1 [2]", "3"},
		"len":  {"0", "!", "!", "5", "7", "0", "3", "0", "3", "0", "2", "1"},
		"keys": {"!", "!", "!", "!", "!", "!", "!", "[]", "[0,1,2]", "[]", "['a','b']", "['']"},
		"not":  {"true", "true", "false", "false", "false", "false", "false", "false", "false", "false", "false", "false"},
		"none": {"", "", "", "", "", "", "", "", "", "", "", ""},
		"bad":  {"!", "!", "!", "!", "!", "!", "!", "!", "!", "!", "!", "!"},
	} {
		var cases []runCase
		for i, tree := range trees {
			want := strings.TrimPrefix(wants[i]+" fine 1", " ")
			if wants[i] == "!" {
				want = "bad 1"
			}
			cases = append(cases, runCase{filt, tree, want})
		}
		wantTold(t, cases)
	}
}

func TestRunOfPipeBothAndIf(t *testing.T) {
	wantTold(t, []runCase{
		{"pipe . .", "5", "5 fine 3"}, {"pipe . pipe . .", "5", "5 fine 5"}, {"pipe pipe . . .", "5", "5 fine 5"}, {"pipe .a: []", "{a:[1,2]}", "1 2 fine 3"},
		{"pipe [] []", "[[1],[2,3],[]]", "1 2 3 fine 5"}, {"pipe [] len", "[[1],'ab',-3]", "1 2 3 fine 5"}, {"pipe both =1 =2 both . .", "5", "1 1 2 2 fine 10"},
		{"pipe none bad", "5", "fine 2"}, {"pipe . none", "5", "fine 3"}, {"pipe [] none", "[1,2]", "fine 4"}, {"pipe [] bad", "[]", "fine 2"},
		{"both . .", "5", "5 5 fine 3"}, {"both none .", "5", "5 fine 3"}, {"both . none", "5", "5 fine 3"}, {"both none none", "5", "fine 3"}, {"both [] []", "[1,2]", "1 2 1 2 fine 3"}, {"both both =1 =2 both =3 =4", "5", "1 2 3 4 fine 7"},
		{"both pipe [] len .", "['a',[]]", "1 0 ['a',[]] fine 6"}, {"pipe both .a: .b: .c:", "{a:{c:1},b:{c:2}}", "1 2 fine 6"},
		// Each thing is told all through, ahead of the next one.
		{"pipe [] both len pipe len not", "['a','']", "1 false 0 false fine 12"}, {"pipe [] pipe [] both . .", "[[1],[2]]", "1 1 2 2 fine 12"},
		{"if . =1 =2", "null", "2 fine 3"}, {"if . =1 =2", "false", "2 fine 3"}, {"if . =1 =2", "true", "1 fine 3"}, {"if . =1 =2", "0", "1 fine 3"}, {"if . =1 =2", "''", "1 fine 3"}, {"if . =1 =2", "[]", "1 fine 3"}, {"if . =1 =2", "{}", "1 fine 3"},
		{"if =true . len", "'abc'", "'abc' fine 3"}, {"if =false . len", "'abc'", "3 fine 3"}, {"if none bad bad", "5", "fine 2"}, {"if both =1 =null . len", "'ab'", "'ab' 2 fine 6"}, {"if [] =7 =8", "[null,1,false,true]", "8 7 8 7 fine 6"},
		{"if . none bad", "5", "fine 3"}, {"if . [] bad", "[1,2]", "1 2 fine 3"}, {"pipe [] if less . =2 =0 .", "[1,2,3]", "0 2 3 fine 17"}, {"if not =1 =2", "null", "1 fine 3"},
		// Something bad behind some that were told.
		{"both =1 bad", "5", "1 bad 3"}, {"both bad =1", "5", "bad 2"}, {"both both =1 =2 bad", "5", "1 2 bad 5"}, {"both =1 both =2 bad", "5", "1 2 bad 5"}, {"both both =1 bad =2", "5", "1 bad 4"},
		{"pipe both =1 bad .", "5", "1 bad 5"}, {"pipe [] []", "[[1,2],5,[3]]", "1 2 bad 4"}, {"pipe [] .a:", "[{a:1},{},3,{a:2}]", "1 null bad 5"}, {"pipe . both . bad", "5", "5 bad 5"}, {"pipe both . bad none", "5", "bad 5"},
		{"if both =1 bad =7 =8", "5", "bad 4"}, {"if bad =7 =8", "5", "bad 2"}, {"if both =1 =null . bad", "5", "5 bad 6"}, {"if both =null =1 . bad", "5", "bad 5"}, {"if [] . []", "[1,null]", "[1,null] 1 null fine 4"},
	})
}

func TestRunOfAddLessAndSame(t *testing.T) {
	wantTold(t, []runCase{
		{"add . .", "5", "10 fine 3"}, {"add . =1", "5", "6 fine 3"}, {"add .a: .b:", "{a:'x',b:'y'}", "'xy' fine 3"}, {"add .a: .b:", "{b:'y'}", "'y' fine 3"}, {"add . .", "[1]", "[1,1] fine 3"}, {"add . ={b:2}", "{a:1,b:1}", "{a:1,b:2} fine 3"}, {"add . .", "null", "null fine 3"},
		{"add both =1 =2 both =10 =20", "5", "11 21 12 22 fine 7"}, {"add [] =10", "[1,2,3]", "11 12 13 fine 3"}, {"add =10 []", "[1,2,3]", "11 12 13 fine 3"}, {"add =1 pipe .a: []", "{a:[1,2]}", "2 3 fine 5"},
		{"add none .", "5", "fine 3"}, {"add . none", "5", "fine 3"}, {"add none none", "5", "fine 3"}, {"add [] none", "[1,'a']", "fine 3"},
		{"less . =6", "5", "true fine 3"}, {"less . =5", "5", "false fine 3"}, {"less . =4", "5", "false fine 3"}, {"less . ='a'", "5", "true fine 3"}, {"less . .", "null", "false fine 3"}, {"less both =1 =2 both =2 =3", "5", "true true false true fine 7"}, {"less [] [0]", "[2,1,3]", "false true false fine 3"},
		{"less =[1] =[1,0]", "5", "true fine 3"}, {"less ={b:0} ={a:1,b:1}", "5", "false fine 3"}, {"less none .", "5", "fine 3"}, {"less . none", "5", "fine 3"},
		{"same . =5", "5", "true fine 3"}, {"same . =6", "5", "false fine 3"}, {"same . =[1,{a:null}]", "[1,{a:null}]", "true fine 3"}, {"same . =null", "false", "false fine 3"}, {"same both =1 =2 both =2 =1", "5", "false true true false fine 7"}, {"same [] [1]", "[2,1,1]", "false true true fine 3"}, {"same none bad", "5", "bad 3"},
		// What can not be added, whichever pair it is.
		{"add . =1", "'a'", "bad 3"}, {"add . .", "true", "bad 3"}, {"add . =1", "1000000", "bad 3"}, {"add . =-1", "-1000000", "bad 3"}, {"add . ='abcdefghijkl'", "'a'", "bad 3"}, {"add [] =1", "[1,2,'a']", "bad 3"}, {"add =1 []", "['a',1]", "bad 3"}, {"add [] []", "[1,null,'a']", "bad 3"}, {"add [] []", "[1,null]", "2 1 1 null fine 3"},
		// Something bad behind some that were told; the second kid is not asked then.
		{"add both =1 bad both =1 =2", "5", "bad 4"}, {"add both =1 =2 both =1 bad", "5", "bad 7"}, {"less both =1 bad =1", "5", "bad 4"}, {"less =1 both =1 bad", "5", "bad 5"}, {"same both =1 bad =1", "5", "bad 4"}, {"same =1 both =1 bad", "5", "bad 5"}, {"add bad bad", "5", "bad 2"}, {"less bad .", "5", "bad 2"}, {"same . bad", "5", "bad 3"}, {"add none bad", "5", "bad 3"}, {"less none bad", "5", "bad 3"},
	})
}

func TestRunOfPairsPastTheMost(t *testing.T) {
	// seven things of which only the last can not be added to the last of six.
	seven, six := "={a:0,b:0,c:0,d:0,e:0,f:0,g:1}", "={a:0,b:0,c:0,d:0,e:0,f:1000000}"
	for _, word := range []string{"add", "less", "same"} {
		tells := map[string]string{"add": "2", "less": "false", "same": "true"}[word]
		wantTold(t, []runCase{
			{word + " pipe =" + rowText(8) + " [] pipe =" + rowText(5) + " []", "5", told(40, tells) + "fine 7"},
			{word + " pipe =" + rowText(5) + " [] pipe =" + rowText(8) + " []", "5", told(40, tells) + "fine 7"},
			{word + " pipe =" + rowText(7) + " [] pipe =" + rowText(6) + " []", "5", "long"},
			{word + " pipe =" + rowText(6) + " [] pipe =" + rowText(7) + " []", "5", "long"},
			{word + " [] =1", rowText(40), told(40, tells) + "fine 3"},
			{word + " =1 []", rowText(40), told(40, tells) + "fine 3"},
			{word + " [] =1", rowText(41), "long"},
			{word + " =1 []", rowText(41), "long"},
			{word + " [] []", rowText(40), "long"},
			{word + " [] none", rowText(40), "fine 3"},
			{word + " none []", rowText(40), "fine 3"},
			{word + " [] none", rowText(41), "long"},
			{word + " none []", rowText(41), "long"},
			{"try " + word + " pipe =" + rowText(7) + " [] pipe =" + rowText(6) + " []", "5", "long"},
			{"else " + word + " pipe =" + rowText(7) + " [] pipe =" + rowText(6) + " [] =9", "5", "long"},
		})
	}
	wantTold(t, []runCase{
		{"add pipe " + seven + " [] pipe " + six + " []", "5", "bad 7"}, {"add pipe " + six + " [] pipe " + seven + " []", "5", "bad 7"},
		{"less pipe " + seven + " [] pipe " + six + " []", "5", "long"}, {"same pipe " + six + " [] pipe " + seven + " []", "5", "long"},
		{"try add pipe " + seven + " [] pipe " + six + " []", "5", "fine 8"}, {"else add pipe " + six + " [] pipe " + seven + " [] =9", "5", "9 fine 9"},
		{"both =3 add pipe " + seven + " [] pipe " + six + " []", "5", "3 bad 9"},
		{"add [] []", "[" + strings.Repeat("1,", 39) + "'a']", "bad 3"}, {"add [] =1", "[" + strings.Repeat("1,", 40) + "'a']", "long"},
	})
	// The widest of all: each of forty things with each of forty, the last pair alone not to be added.
	nothing := "[" + strings.Repeat("null,", 39)
	wantTold(t, []runCase{{"add [] pipe =" + nothing + "'a'] []", nothing + "1]", "bad 5"}, {"add [] pipe =" + nothing + "2] []", nothing + "1]", "long"}})
}

func TestRunOfRowElseTryAndMake(t *testing.T) {
	wantTold(t, []runCase{
		{"row .", "5", "[5] fine 2"}, {"row none", "5", "[] fine 2"}, {"row both . =2", "5", "[5,2] fine 4"}, {"row []", "{a:1,b:[2]}", "[1,[2]] fine 2"}, {"row pipe [] add . .", "[1,2]", "[2,4] fine 9"}, {"row row .", "5", "[[5]] fine 3"},
		{"row .", "[[[[[1]]]]]", "bad 2"}, {"row .", "[[[[1]]]]", "[[[[[1]]]]] fine 2"}, {"row both . .", rowText(29), "bad 4"}, {"row both . =1", rowText(57), "[" + rowText(57) + ",1] fine 4"}, {"row both . =1", rowText(58), "bad 4"},
		{"else . =9", "5", "5 fine 2"}, {"else . =9", "null", "9 fine 3"}, {"else . =9", "false", "9 fine 3"}, {"else . =9", "0", "0 fine 2"}, {"else . len", "[]", "[] fine 2"}, {"else none len", "'abc'", "3 fine 3"}, {"else [] =9", "[null,1,false,2]", "1 2 fine 2"}, {"else [] =9", "[null,false]", "9 fine 3"}, {"else none none", "5", "fine 3"},
		{"else none both . .", "5", "5 5 fine 5"}, {"else =null =null", "5", "null fine 3"}, {"else =null =false", "5", "false fine 3"}, {"else .z: =9", "{a:1}", "9 fine 3"}, {"else else none =null =9", "5", "9 fine 5"}, {"else .a: bad", "{a:1}", "1 fine 2"},
		{"try .", "5", "5 fine 2"}, {"try .", "null", "null fine 2"}, {"try none", "5", "fine 2"}, {"try []", "[1,null]", "1 null fine 2"}, {"try bad", "5", "fine 2"}, {"try try bad", "5", "fine 3"}, {"pipe [] try add . =1", "[1,'a',2]", "2 3 fine 14"}, {"pipe [] try .a:", "[{a:1},5,{a:2}]", "1 2 fine 8"},
		{"make:k .", "5", "{k:5} fine 2"}, {"make: .", "5", "{:5} fine 2"}, {"make:k none", "5", "fine 2"}, {"make:k both . =null", "5", "{k:5} {k:null} fine 4"}, {"make:k []", "[1,[2]]", "{k:1} {k:[2]} fine 2"}, {"make:k pipe .a: [1]", "{a:[1,2]}", "{k:2} fine 4"}, {"make:k make:k .", "{k:1}", "{k:{k:{k:1}}} fine 3"},
		{"make:k .", "[[[[[1]]]]]", "bad 2"}, {"make:k .", "[[[[1]]]]", "{k:[[[[1]]]]} fine 2"}, {"make:k .", rowText(59), "bad 2"}, {"make:k .", rowText(58), "{k:" + rowText(58) + "} fine 2"}, {"make:k []", "[1,[[[[1]]]],2]", "{k:1} {k:[[[[1]]]]} {k:2} fine 2"}, {"make:k both =1 .", "[[[[[1]]]]]", "bad 4"}, {"make:k both . =1", "[[[[[1]]]]]", "bad 4"},
		// Something bad behind some that were told.
		{"row both =1 bad", "5", "bad 4"}, {"row bad", "5", "bad 2"}, {"make:k both =1 bad", "5", "bad 4"}, {"make:k bad", "5", "bad 2"},
		{"else both =1 bad =2", "5", "1 fine 4"}, {"else both =null bad =2", "5", "2 fine 5"}, {"else bad =2", "5", "2 fine 3"}, {"else both both =1 =2 bad =9", "5", "1 2 fine 6"}, {"else bad bad", "5", "bad 3"}, {"else none bad", "5", "bad 3"}, {"else none both =1 bad", "5", "1 bad 5"}, {"else both both =null =1 bad bad", "5", "1 fine 6"},
		{"else [] =9", "5", "9 fine 3"}, {"else pipe [] [] =9", "[[null,1],5,[2]]", "1 fine 5"}, {"try both =1 bad", "5", "1 fine 4"}, {"try both both =1 =null bad", "5", "1 null fine 6"}, {"try pipe [] []", "[[1,2],5,[3]]", "1 2 fine 5"}, {"both try both =1 bad =2", "5", "1 2 fine 6"}, {"both try bad bad", "5", "bad 4"}, {"try both =1 pipe bad both =2 =3", "5", "1 fine 5"},
	})
}

// deepKeys is a filter that looks so many steps further, each to the key a.
func deepKeys(many int) string {
	if many == 1 {
		return ".a:"
	}
	return "pipe " + deepKeys(many/2) + " " + deepKeys(many-many/2)
}

func TestRunOfTurn(t *testing.T) {
	v := "{a:[1,2,3],b:'x'}"
	wantTold(t, []runCase{
		// Each kind that only looks.
		{"turn . =9", v, "9 fine 3"}, {"turn . .", v, v + " fine 3"}, {"turn .a: len", v, "{a:3,b:'x'} fine 3"}, {"turn .c: =5", v, "{a:[1,2,3],b:'x',c:5} fine 3"}, {"turn .: =5", v, "{:5,a:[1,2,3],b:'x'} fine 3"},
		{"turn [1] =9", "[1,2,3]", "[1,9,3] fine 3"}, {"turn [0] not", "[1]", "[false] fine 3"}, {"turn [3] =9", "[1]", "[1,null,null,9] fine 3"},
		{"turn [] add . =1", "[1,2]", "[2,3] fine 8"}, {"turn [] add . =1", "{a:1,b:2}", "{a:2,b:3} fine 8"}, {"turn [] bad", "[]", "[] fine 2"}, {"turn [] bad", "{}", "{} fine 2"}, {"turn none bad", v, v + " fine 2"},
		{"turn pipe .a: [] add . =1", v, "{a:[2,3,4],b:'x'} fine 13"}, {"turn pipe .b: . =1", v, "{a:[1,2,3],b:1} fine 5"}, {"turn pipe [] [] =0", "[[1,2],{a:1},[]]", "[[0,0],{a:0},[]] fine 9"}, {"turn pipe [] none bad", "[1,2]", "[1,2] fine 5"}, {"turn pipe none . bad", v, v + " fine 3"},
		{"turn both .a: .b: =1", v, "{a:1,b:1} fine 6"}, {"turn both none .b: =1", v, "{a:[1,2,3],b:1} fine 5"}, {"turn both .b: none =1", v, "{a:[1,2,3],b:1} fine 5"}, {"turn both none none bad", v, v + " fine 4"},
		{"turn if =true .a: .b: =1", v, "{a:1,b:'x'} fine 5"}, {"turn if =null .a: .b: =1", v, "{a:[1,2,3],b:1} fine 5"}, {"turn if none .a: .b: bad", v, v + " fine 3"}, {"turn if both =1 =false .a: .b: =1", v, "{a:1,b:1} fine 9"},
		{"turn pipe [] if less . =2 . none =0", "[1,2,1]", "[0,2,0] fine 20"}, {"turn pipe [] if [0] [1] none =0", "[[1,2],[null,2],[3,4]]", "[[1,0],[null,2],[3,0]] fine 14"}, {"turn if turn .a: =null .a: .b: =1", "{a:1}", "{a:1} fine 7"},
		{"turn [] =2", rowText(59), strings.ReplaceAll(rowText(59), "1", "2") + " fine 61"},
		// What is told all at once of the place, and something bad.
		{"turn .b: none", v, "bad 3"}, {"turn .b: both . .", v, "bad 5"}, {"turn .a: []", v, "bad 3"}, {"turn .a: bad", v, "bad 3"}, {"turn .b: both . bad", v, "bad 5"}, {"turn .b: try both . bad", v, v + " fine 6"}, {"turn .a: pipe [] bad", v, "bad 5"},
		{"turn . turn .a: =1", "{}", "{a:1} fine 5"}, {"turn [] pipe . both none .", "[1]", "[1] fine 7"}, {"turn . []", "[7]", "7 fine 3"}, {"turn . []", "[]", "bad 3"}, {"turn . []", "[7,8]", "bad 3"},
		{"turn [] [0]", "[[1],2,[3]]", "bad 4"}, {"try turn [] [0]", "[[1],2,[3]]", "fine 5"}, {"else turn [] [0] =9", "[[1],2,[3]]", "9 fine 6"}, {"both . turn .b: none", v, v + " bad 5"}, {"pipe turn .b: none .", v, "bad 4"},
		// Where nothing can be looked at nothing is asked any more.
		{"turn .a: =1", "5", "bad 2"}, {"turn .a: =1", "[]", "bad 2"}, {"turn [0] =1", "{}", "bad 2"}, {"turn [0] =1", "'a'", "bad 2"}, {"turn [] =1", "null", "bad 2"}, {"turn [] =1", "5", "bad 2"}, {"turn [] =1", "'a'", "bad 2"},
		{"turn both . [0] =1", "{}", "bad 4"}, {"turn both [0] . =1", "{}", "bad 3"}, {"turn pipe [0] . =1", "{}", "bad 3"}, {"turn pipe [] .a: =1", "[{},5,{}]", "bad 5"}, {"turn pipe . [] =1", "5", "bad 4"}, {"turn pipe both . [0] [] =1", "{a:1}", "bad 5"},
		{"turn if bad . . =1", "5", "bad 3"}, {"turn if both =1 bad . . =1", "5", "bad 5"}, {"turn if both =1 =null . [0] =1", "5", "bad 7"}, {"turn if both =null =1 . [0] =1", "5", "bad 6"},
	})
}

func TestRunOfTurnOfPlaces(t *testing.T) {
	wantTold(t, []runCase{
		// A place that is turned twice, and one in another one that is turned ahead.
		{"turn both . . add . =1", "1", "3 fine 10"}, {"turn both .a: .a: add . .", "{a:1}", "{a:4} fine 10"}, {"turn if both =1 =2 . none add . =1", "5", "7 fine 13"}, {"turn pipe both .a: .a: [] add . =1", "{a:[1]}", "{a:[3]} fine 13"}, {"turn both [0] [-1] add . =1", "[1]", "[3] fine 10"},
		{"turn both . .a: =5", "{a:1}", "bad 5"}, {"turn both .a: . =5", "{a:1}", "5 fine 6"}, {"turn both . [] add . .", "[1,2]", "[2,4,1,2] fine 13"}, {"turn both . [1] keys", "[[5],[6,7]]", "bad 6"}, {"turn both [1] . keys", "[[5],[6,7]]", "[0,1] fine 6"}, {"turn both . [] =[]", "[1,2]", "[[],[]] fine 7"},
		// From the end.
		{"turn [-1] =9", "[1,2]", "[1,9] fine 3"}, {"turn [-2] =9", "[1,2]", "[9,2] fine 3"}, {"turn [-3] =9", "[1,2]", "bad 3"}, {"turn [-1] =9", "[]", "bad 3"}, {"turn [-1] =9", "null", "bad 3"}, {"turn [-1] none", "[]", "bad 3"}, {"turn pipe [-1] [-1] =9", "[[1],[2,3]]", "[[1],[2,9]] fine 5"},
		{"turn both . [-1] add . .", "[2]", "[2,4] fine 10"}, {"turn both . [-1] =[]", "[1]", "bad 6"}, {"turn both [-1] [-2] add . =1", "[1]", "bad 10"},
		// Through nothing.
		{"turn .a: =1", "null", "{a:1} fine 3"}, {"turn [0] =1", "null", "[1] fine 3"}, {"turn [2] =1", "null", "[null,null,1] fine 3"}, {"turn .a: .", "{}", "{a:null} fine 3"}, {"turn . =1", "null", "1 fine 3"}, {"turn pipe .x: .y: =1", "{}", "{x:{y:1}} fine 5"}, {"turn pipe .x: [1] =1", "null", "{x:[null,1]} fine 5"}, {"turn pipe .a: .b: .", "{a:null}", "{a:{b:null}} fine 5"},
		{"turn pipe .x: [] =1", "{}", "bad 4"}, {"turn pipe .x: [-1] =1", "{}", "bad 5"}, {"turn pipe .a: .b: =1", "{a:5}", "bad 4"}, {"turn both .a: [0] =1", "null", "bad 5"}, {"turn both .a: .b: =1", "null", "{a:1,b:1} fine 6"},
		// Long ways. One of PathLong steps is asked, but what is put at its end is too deep.
		{"turn " + deepKeys(5) + " =1", "null", "{a:{a:{a:{a:{a:1}}}}} fine 11"}, {"turn " + deepKeys(6) + " =1", "null", "bad 13"}, {"turn " + deepKeys(6) + " row .", "null", "bad 14"}, {"turn " + deepKeys(7) + " =1", "null", "bad 14"}, {"turn " + deepKeys(7) + " row .", "null", "bad 14"}, {"turn " + deepKeys(7) + " bad", "null", "bad 14"}, {"try turn " + deepKeys(7) + " .", "{a:{a:null}}", "fine 15"},
		// What is not ok once it is turned.
		{"turn [0] =[1]", rowText(59), "bad 3"}, {"turn [0] =[]", rowText(59), "[[]" + rowText(59)[2:] + " fine 3"}, {"turn [59] =1", "null", "bad 3"}, {"turn [58] =1", "null", "[" + strings.Repeat("null,", 58) + "1] fine 3"}, {"turn [0] row .", "[[[[[1]]]]]", "bad 4"}, {"turn [0] row .", "[[[[1]]]]", "[[[[[1]]]]] fine 4"}, {"turn both [0] [1] if same . =1 =[1] =[]", rowText(59), "bad 9"},
	})
}

func TestRunOfTheMostThings(t *testing.T) {
	most, more := rowText(40), rowText(41)
	for _, c := range []struct{ filt, want string }{
		{"[]", told(40, "1") + "fine 1"}, {"pipe . []", told(40, "1") + "fine 3"}, {"pipe [] .", told(40, "1") + "fine 42"}, {"both [] none", told(40, "1") + "fine 3"}, {"both none []", told(40, "1") + "fine 3"}, {"both [] bad", told(40, "1") + "bad 3"},
		{"row []", most + " fine 2"}, {"try []", told(40, "1") + "fine 2"}, {"else [] =9", told(40, "1") + "fine 2"}, {"make:k []", told(40, "{k:1}") + "fine 2"}, {"if [] =7 bad", told(40, "7") + "fine 42"}, {"if [] none bad", "fine 42"},
		{"row both [] bad", "bad 4"}, {"make:k both [] bad", "bad 4"}, {"try both [] bad", told(40, "1") + "fine 4"}, {"else both [] bad =9", told(40, "1") + "fine 4"}, {"else pipe [] =null =9", "9 fine 44"}, {"add both [] bad =1", "bad 4"}, {"add [] bad", "bad 3"},
		{"turn . []", "bad 3"}, {"turn . row []", most + " fine 4"}, {"turn if [] . none =1", "1 fine 83"}, {"turn if [] none . bad", most + " fine 43"}, {"pipe row [] len", "40 fine 4"}, {"try turn . []", "fine 4"},
	} {
		wantTold(t, []runCase{{c.filt, most, c.want}})
		list, code, left := wantRun(t, readFilt(t, c.filt), read(t, more), impl.RunFuel)
		if code != impl.RunLong || left != 0 || len(list) != 0 && len(list) != 40 {
			t.Errorf("%s of one more tells %s, and %d is left", c.filt, plainRun(list, code), left)
		}
	}
	wantTold(t, []runCase{
		// What is told all at once at the end is cut off behind the most.
		{"[]", more, told(40, "1") + "long"}, {"both [] .", most, told(40, "1") + "long"}, {"both . []", most, most + " " + told(39, "1") + "long"}, {"both [] bad", more, told(40, "1") + "long"}, {"both [] []", rowText(20), told(40, "1") + "fine 3"}, {"both =9 both [] []", rowText(20), "9 " + told(39, "1") + "long"},
		// A part that tells too much has told nothing.
		{"try []", more, "long"}, {"else [] =9", more, "long"}, {"both =3 row []", more, "3 long"}, {"both =3 try []", more, "3 long"}, {"try both [] bad", more, "long"}, {"try if [] bad bad", more, "long"},
		// What is gone in between does not count.
		{"pipe [] none", rowText(59), "fine 61"}, {"row pipe [] none", rowText(59), "[] fine 62"}, {"both pipe [] none [0]", rowText(59), "1 fine 63"}, {"pipe [] if less . =2 none .", rowText(59), "fine 297"},
	})
}

// hungry is a filter that takes 398 of fuel, and 1 for each try, and tells one thing.
func hungry(tries int) string {
	// both, pipe, =, pipe, [], then eight times pipe, =, pipe, [] and 45 times none, and at last =1.
	return "both pipe =" + rowText(8) + " pipe [] pipe =" + rowText(45) + " pipe [] none " + strings.Repeat("try ", tries) + "=1"
}

func TestRunOfAllFuel(t *testing.T) {
	wantTold(t, []runCase{{hungry(0), "5", "1 fine 398"}, {hungry(1), "5", "1 fine 399"}, {hungry(2), "5", "1 fine 400"}, {hungry(3), "5", "long"}, {hungry(4), "5", "long"}})
	// What was told ahead of that stays told, but not by a part.
	f, v := readFilt(t, "both both . . row both . ."), num(5)
	for fuel, want := range []string{"long", "long", "long", "5 long", "5 5 long", "5 5 long", "5 5 long", "5 5 long", "5 5 [5,5] fine", "5 5 [5,5] fine"} {
		list, code, left := wantRun(t, f, v, fuel)
		if got := plainRun(list, code); got != want || left != max(fuel-8, 0) {
			t.Errorf("with %d: %s, and %d is left", fuel, got, left)
		}
	}
}

func TestRunOne(t *testing.T) {
	for _, c := range []struct {
		filt, tree, want string
	}{
		{".b:", "{b:'x'}", "'x'"}, {".", "null", "null"}, {"pipe .a: [1]", "{a:[1,2]}", "2"}, {"both . none", "5", "5"}, {"try both . bad", "5", "5"}, {"row []", "[1,2]", "[1,2]"}, {"[]", "[7]", "7"}, {"=null", "5", "null"}, {hungry(2), "5", "1"},
		{"none", "5", ""}, {"both . .", "5", ""}, {"[]", "[1,2]", ""}, {"[]", "[]", ""}, {"both . bad", "5", ""}, {"bad", "5", ""}, {"both bad .", "5", ""}, {".a:", "5", ""}, {"[]", rowText(41), ""}, {hungry(3), "5", ""}, {"both . " + strings.Replace(hungry(2), " =1", " none", 1), "5", ""},
	} {
		got, ok := impl.RunOne(readFilt(t, c.filt), read(t, c.tree))
		wantPart(t, "the one thing of "+c.filt, c.want, got, ok)
	}
	for what, v := range treesThatAreNotOk() {
		got, ok := impl.RunOne(lit(num(1)), v)
		wantPart(t, what, "", got, ok)
		got, ok = impl.RunOne(lit(v), num(1))
		wantPart(t, what+" in the filter", "", got, ok)
	}
	for what, f := range wrongFilts() {
		got, ok := impl.RunOne(f, num(1))
		wantPart(t, what, "", got, ok)
	}
}

// wrongFilts is filters that are not ok, by what is wrong with them.
func wrongFilts() map[string]impl.Filt {
	deepest := chain(6, filtOf(impl.FiltId))
	wrong := map[string]impl.Filt{
		"no filter": {}, "kind below 0": {Kind: -1}, "kind 22": {Kind: 22}, "a kid too few": join(impl.FiltPipe, filtOf(1)), "a kid too many": join(impl.FiltId, filtOf(1)), "a wrong kid": join(impl.FiltTry, impl.Filt{}),
		"a number too many": {Kind: impl.FiltId, N: 1}, "a text too many": {Kind: impl.FiltId, S: "a"}, "a tree too many": {Kind: impl.FiltId, V: num(1)}, "a wrong key": keyOf("A"), "a long key": keyOf("abcdefghijklm"), "a far place": placeOf(60), "a far place from the end": placeOf(-61),
		"a turn of what does not only look": join(impl.FiltTurn, filtOf(impl.FiltLen), filtOf(1)), "too many parts": sized(17, filtOf(1)), "too deep": join(impl.FiltTry, deepest), "kids that hold themselves": roundFilt(impl.FiltPipe, 2), "past all bounds": tries(100000, filtOf(1)),
	}
	for what, v := range treesThatAreNotOk() {
		wrong["a literal: "+what] = lit(v)
	}
	return wrong
}

// wantNoGen asks for what is told of what is not ok.
func wantNoGen(t *testing.T, what string, g impl.Gen) {
	t.Helper()
	if impl.GenOk(g) {
		t.Errorf("%s is ok", what)
	}
	next, v, ok := impl.GenNext(g)
	if ok || !equal(v, impl.Val{}) || !equalGen(next, impl.Gen{Code: impl.RunForm}) {
		t.Errorf("%s: %v, %v, %v is told", what, next, v, ok)
	}
}

// wantNoRun asks for what is told of a filter, a tree or fuel that is not ok.
func wantNoRun(t *testing.T, what string, f impl.Filt, v impl.Val, fuel int) {
	t.Helper()
	if g := impl.GenOpen(f, v, fuel); !equalGen(g, impl.Gen{Code: impl.RunForm}) || !impl.GenOk(g) {
		t.Errorf("%s opens %v", what, g)
	}
	if list, code, left := impl.Run(f, v, fuel); len(list) != 0 || code != impl.RunForm || left != 0 {
		t.Errorf("%s tells %v, %d, %d", what, list, code, left)
	}
	wantNoGen(t, what, impl.Gen{Tasks: []impl.Task{{V: v, Todo: []impl.Filt{f}}}, Fuel: fuel})
}

func TestGenOpen(t *testing.T) {
	d := dice(71)
	trees := d.trees(300)
	for i, f := range d.filters(300) {
		for _, fuel := range []int{0, 1, 399, 400} {
			g := impl.GenOpen(f, trees[i], fuel)
			if !equalGen(g, impl.Gen{Tasks: []impl.Task{{V: trees[i], Todo: []impl.Filt{f}}}, Fuel: fuel}) || !impl.GenOk(g) {
				t.Fatalf("%s of %s with %d opens %v", plainFilt(f), plain(trees[i]), fuel, g)
			}
		}
		for _, fuel := range []int{-1, 401, -400, math.MinInt, math.MaxInt, 1 << 32, 1<<32 + 5} {
			wantNoRun(t, "fuel "+strconv.Itoa(fuel), f, trees[i], fuel)
		}
	}
	if got := plainGen(impl.GenOpen(readFilt(t, "pipe [] len"), read(t, "[1,{a:2}]"), 7)); got != "7 fine; [1,{a:2}] <- pipe [] len" {
		t.Error(got)
	}
	for what, v := range treesThatAreNotOk() {
		wantNoRun(t, what, lit(num(1)), v, 5)
	}
	for what, f := range wrongFilts() {
		wantNoRun(t, what, f, num(1), 5)
		wantNoRun(t, what, f, num(1), 0)
	}
	// A filter and a tree at all bounds.
	wantTold(t, []runCase{{plainFilt(sized(16, lit(wide(59)))), plain(rows(5, num(1))), told(7, "[[[[[1]]]]]") + "bad 16"}, {plainFilt(chain(6, filtOf(impl.FiltLen))), plain(wide(59)), "59 fine 13"}})
	if impl.RunFine != 0 || impl.RunBad != 1 || impl.RunLong != 2 || impl.RunForm != 3 || impl.RunFuel != 400 || impl.RunOuts != 40 {
		t.Error("constants")
	}
}

// waits is a task of a tree for which a filter waits so many times.
func waits(v impl.Val, many int, f impl.Filt) impl.Task {
	return impl.Task{V: v, Todo: slices.Repeat([]impl.Filt{f}, many)}
}

func TestGenOk(t *testing.T) {
	one := []impl.Task{waits(num(1), 1, filtOf(1))}
	for fuel := -3; fuel <= 404; fuel++ {
		for code := -2; code <= 6; code++ {
			for _, tasks := range [][]impl.Task{nil, {}, one, alone(num(1)), alone(num(1), num(2))} {
				g := impl.Gen{Tasks: tasks, Fuel: fuel, Code: code}
				want := fuel >= 0 && fuel <= 400 && (code == 0 || code > 0 && code <= 3 && len(tasks) == 0)
				if impl.GenOk(g) != want {
					t.Fatalf("%d tasks, fuel %d and code %d: ok %v", len(tasks), fuel, code, !want)
				}
				if !want {
					wantNoGen(t, fmt.Sprintf("%d tasks, fuel %d and code %d", len(tasks), fuel, code), g)
				}
			}
		}
	}
	for _, n := range []int{math.MaxInt, math.MinInt, 1 << 32, 1 << 40} {
		wantNoGen(t, "a far fuel", impl.Gen{Fuel: n})
		wantNoGen(t, "a far code", impl.Gen{Code: n})
	}
	for _, n := range []int{1999, 2000} {
		if !impl.GenOk(impl.Gen{Tasks: slices.Repeat(one, n), Fuel: 1}) || !impl.GenOk(impl.Gen{Tasks: slices.Repeat(alone(num(1)), n)}) {
			t.Errorf("%d tasks are not ok", n)
		}
	}
	for _, n := range []int{2001, 2002, 100000} {
		wantNoGen(t, fmt.Sprintf("%d tasks", n), impl.Gen{Tasks: slices.Repeat(alone(num(1)), n), Fuel: 1})
	}
	for _, n := range []int{0, 1, 39, 40} {
		for _, f := range []impl.Filt{filtOf(1), sized(16, lit(wide(59))), chain(6, filtOf(1))} {
			g := impl.Gen{Tasks: []impl.Task{waits(num(1), n, f), waits(num(2), n, f)}}
			if !impl.GenOk(g) {
				t.Errorf("%d filters that wait are not ok", n)
			}
		}
	}
	for at := range 3 {
		set := func(what string, task impl.Task) {
			g := impl.Gen{Tasks: slices.Repeat(one, 3), Fuel: 9}
			g.Tasks[at] = task
			wantNoGen(t, fmt.Sprintf("task %d: %s", at, what), g)
		}
		for _, n := range []int{41, 42, 100000} {
			set(fmt.Sprintf("%d filters that wait", n), waits(num(1), n, filtOf(1)))
		}
		for what, v := range treesThatAreNotOk() {
			set(what, impl.Task{V: v})
			set(what, waits(v, 1, filtOf(1)))
		}
		for what, f := range wrongFilts() {
			set(what, waits(num(1), 1, f))
			set(what+", behind others", impl.Task{V: num(1), Todo: []impl.Filt{filtOf(1), filtOf(2), f}})
		}
	}
}

// nextCase is a Gen, the thing that is told of it, and what it is then.
type nextCase struct{ from, told, then string }

func TestGenNext(t *testing.T) {
	for _, c := range []nextCase{
		// No tasks, and one for which nothing waits.
		{"0 fine", "", "0 fine"}, {"5 fine", "", "5 fine"}, {"400 fine", "", "400 fine"}, {"5 bad", "", "5 bad"}, {"0 long", "", "0 long"}, {"7 long", "", "7 long"}, {"0 form", "", "0 form"}, {"400 form", "", "400 form"},
		{"0 fine; 7", "7", "0 fine"}, {"5 fine; [1]; {a:null}", "{a:null}", "5 fine; [1]"}, {"5 fine; 1 <- bad; 2", "2", "5 fine; 1 <- bad"}, {"0 fine; null", "null", "0 fine"},
		// No fuel left, and just enough.
		{"0 fine; 7; 5 <- .", "", "0 long"}, {"1 fine; 7; 5 <- .", "5", "0 fine; 7"}, {"1 fine; 7; 5 <- . & .", "", "0 long"}, {"2 fine; 7; 5 <- . & .", "5", "0 fine; 7"}, {"0 fine; 5 <- bad", "", "0 long"}, {"1 fine; 5 <- bad", "", "0 bad"}, {"2 fine; 5 <- bad", "", "1 bad"}, {"1 fine; 5 <- none", "", "0 fine"}, {"1 fine; 5 <- try .", "", "0 long"}, {"1 fine; 5 <- pipe . .", "", "0 long"}, {"2 fine; 5 <- turn . .", "", "0 long"}, {"3 fine; 5 <- turn . .", "5", "0 fine"},
		// A filter of each kind, with others that wait behind it, and another task.
		{"9 fine; 7 <- bad; 5 <- . & not", "false", "7 fine; 7 <- bad"}, {"9 fine; 7; 5 <- =[1] & len & .", "1", "6 fine; 7"}, {"9 fine; 7; {a:'xy'} <- .a: & len", "2", "7 fine; 7"}, {"9 fine; 7; [1,[2]] <- [-1] & len", "1", "7 fine; 7"}, {"9 fine; 7; 'abc' <- len & not", "false", "7 fine; 7"}, {"9 fine; 7; {a:1,b:2} <- keys & len", "2", "7 fine; 7"}, {"9 fine; 7; null <- not & not", "false", "7 fine; 7"},
		{"9 fine; 7; [1,'ab',[]] <- [] & len", "1", "7 fine; 7; [] <- len; 'ab' <- len"}, {"9 fine; 7; [] <- [] & len", "7", "8 fine"}, {"9 fine; 7; {a:1,b:2} <- []", "1", "8 fine; 7; 2"}, {"9 fine; 7; 5 <- none & bad", "7", "8 fine"}, {"9 fine; 7; 5 <- bad & .", "", "8 bad"},
		{"9 fine; 7; [[1,2],[3]] <- pipe [] [] & not & not", "true", "4 fine; 7; [3] <- [] & not & not; 2 <- not & not"}, {"9 fine; 7; 5 <- both . not & len", "5", "6 fine; 7; 5 <- not & len"},
		{"20 fine; 7; 5 <- if both =1 both =null =2 . not & len", "5", "12 fine; 7; 5 <- . & len; 5 <- not & len"}, {"9 fine; 7; 5 <- if none bad bad & .", "7", "7 fine"}, {"9 fine; 7; 5 <- if bad . .", "", "7 bad"},
		{"20 fine; 7; 5 <- add both . =1 both =10 =20 & len", "15", "12 fine; 7; 21 <- len; 11 <- len; 25 <- len"}, {"20 fine; 7; 5 <- less both . =1 =4 & not", "true", "14 fine; 7; true <- not"}, {"20 fine; 7; 5 <- same . both =5 =1", "true", "15 fine; 7; false"}, {"9 fine; 7; 5 <- add . =true", "", "6 bad"},
		{"9 fine; 7; [1,2] <- row [] & len", "2", "6 fine; 7"}, {"9 fine; 7; [1,null,2] <- else [] bad & .", "1", "6 fine; 7; 2 <- ."}, {"9 fine; 7; [null] <- else [] not & len & bad", "", "5 bad"}, {"9 fine; 7; [null] <- else [] len & .", "1", "5 fine; 7"}, {"9 fine; 7; 5 <- else both =1 bad =2 & len", "1", "4 fine; 7"},
		{"9 fine; 7; [1,2] <- try both [] bad & .", "1", "4 fine; 7; 2 <- ."}, {"9 fine; 7; 5 <- try bad & bad", "7", "7 fine"}, {"9 fine; 7; [1,2] <- make:k [] & len", "1", "6 fine; 7; {k:2} <- len"}, {"9 fine; 7; {a:1} <- turn .a: len & keys", "['a']", "5 fine; 7"}, {"9 fine; 7; 5 <- turn .a: len & keys", "", "7 bad"},
		// Several tasks that are gone ahead of the first thing, and none of them telling.
		{"9 fine; 1 <- not; [] <- []; 5 <- none; [3] <- [] & none", "false", "4 fine"}, {"9 fine; 1 <- none; [] <- []; 5 <- none", "", "6 fine"}, {"2 fine; 1 <- none; [] <- []; 5 <- none", "", "0 long"}, {"9 fine; 1; [] <- []; 5 <- bad; 6 <- none", "", "7 bad"},
	} {
		g := readGen(t, c.from)
		next, v, ok := impl.GenNext(g)
		if plainGen(next) != c.then {
			t.Errorf("%s: %s, not %s", c.from, plainGen(next), c.then)
		}
		wantPart(t, "told of "+c.from, c.told, v, ok)
		wantNext(t, g)
	}
}

// wantNext asks for what the model tells next.
func wantNext(t *testing.T, g impl.Gen) (impl.Gen, bool) {
	t.Helper()
	want, thing, tells := nextModel(g)
	got, v, ok := impl.GenNext(g)
	if !equalGen(got, want) || !equal(v, thing) || ok != tells {
		t.Fatalf("%.300s: %s, %v, %.300s, not %s, %v, %.300s", plainGen(g), plain(v), ok, plainGen(got), plain(thing), tells, plainGen(want))
	}
	return got, ok
}

// tame is a filter like one that was drawn, with fewer keys and places, and less that is bad.
func (d *dice) tame(f impl.Filt) impl.Filt {
	f = cloneFilt(f)
	switch f.Kind {
	case impl.FiltKey, impl.FiltMake:
		f.S = [...]string{"a", "b"}[d.below(2)]
	case impl.FiltAt:
		f.N = d.below(4) - 2
	case impl.FiltBad:
		if d.below(3) > 0 {
			f.Kind = impl.FiltId
		}
	}
	for at, kid := range f.Kids {
		f.Kids[at] = d.tame(kid)
	}
	return f
}

// fruit is a tree in which filters that are tame find something.
func (d *dice) fruit(deep int) impl.Val {
	kind := d.below(10)
	if deep == 1 {
		kind = 9
	}
	switch kind {
	case 0:
		room := 8
		return d.tree(&room, deep)
	case 1, 2, 3, 4:
		return keyed([]string{"a", "b"}, d.fruit(deep-1), d.fruit(deep-1))
	case 5, 6, 7, 8:
		v := row()
		for range d.below(4) {
			v.List = append(v.List, d.fruit(deep-1))
		}
		return v
	}
	return [...]impl.Val{num(1), num(2), num(-3), str("ab"), {}, {Kind: impl.ValNo}, {Kind: impl.ValYes}, row(num(1), num(2)), num(5)}[d.below(9)]
}

// fruits is so many of these that are ok.
func (d *dice) fruits(n int) []impl.Val {
	var list []impl.Val
	for len(list) < n {
		if v := d.fruit(1 + d.below(5)); fits(v) {
			list = append(list, v)
		}
	}
	return list
}

func TestRunOfMany(t *testing.T) {
	d := dice(72)
	m := runModel{seen: map[[2]int]int{}}
	trees := append(d.fruits(40000), slices.Repeat([]impl.Val{read(t, rowText(40)), read(t, rowText(41)), read(t, "[[1,2],[3,[4]],{a:5,b:6},[],7]"), read(t, "{a:{a:{a:1,b:[1]},b:null},b:[{a:1},{b:2}]}")}, 1500)...)
	ended, things := map[int]int{}, map[int]int{}
	for i, f := range d.filters(len(trees)) {
		f = d.tame(f)
		list, code, _ := wantRun(t, f, trees[i], impl.RunFuel)
		wantRun(t, f, trees[i], d.below(30))
		m.fuel = impl.RunFuel
		m.runOf(f, trees[i])
		ended[code]++
		things[min(len(list), 3)]++
	}
	for code, least := range []int{15000, 10000, 200} {
		if ended[code] < least {
			t.Errorf("only %d ended %s", ended[code], codeWords[code])
		}
	}
	for many, n := range things {
		if n < 1000 {
			t.Errorf("only %d told %d things", n, many)
		}
	}
	for kind := 1; kind <= 21; kind++ {
		fine, bad := m.seen[[2]int{kind, impl.RunFine}], m.seen[[2]int{kind, impl.RunBad}]
		wantBad := !slices.Contains([]int{1, 2, 6, 7, 15, 16, 17, 18}, kind)
		if fine < 100 && kind != impl.FiltBad || bad < 30 && wantBad {
			t.Errorf("kind %d was done %d times, and %d times badly", kind, fine, bad)
		}
	}
}

func TestRunOfManyWithAllFuel(t *testing.T) {
	d := dice(73)
	trees := d.fruits(1200)
	for i, f := range d.filters(len(trees)) {
		wantAllFuel(t, d.tame(f), trees[i])
	}
}

// gen is a Gen that is ok, with tasks of all sorts.
func (d *dice) gen() impl.Gen {
	g := impl.Gen{Fuel: d.below(40)}
	if d.below(10) == 0 {
		g.Fuel = d.below(401)
	}
	for _, v := range d.fruits(d.below(5)) {
		task := impl.Task{V: v}
		for _, f := range d.filters(d.below(4)) {
			task.Todo = append(task.Todo, d.tame(f))
		}
		g.Tasks = append(g.Tasks, task)
	}
	if len(g.Tasks) == 0 {
		g.Code = d.below(4)
	}
	return g
}

func TestGenNextOfMany(t *testing.T) {
	d := dice(74)
	steps := 0
	for range 15000 {
		g, ok := d.gen(), true
		if !impl.GenOk(g) {
			t.Fatalf("%s is not ok", plainGen(g))
		}
		for ok {
			g, ok = wantNext(t, g)
			steps++
		}
		// When there are none, nothing is turned any more.
		if again, _ := wantNext(t, g); !equalGen(again, g) || len(g.Tasks) > 0 {
			t.Fatalf("%s goes on as %s", plainGen(g), plainGen(again))
		}
	}
	if steps < 20000 {
		t.Errorf("only %d steps", steps)
	}
}

func TestGenNextPastTheMost(t *testing.T) {
	// As many tasks as there may be: all that is told, without fuel.
	g := impl.Gen{Tasks: slices.Repeat([]impl.Task{{V: num(3)}, {V: row(num(4))}}, 1000)}
	for many := 1999; many >= 1990; many-- {
		next, v, ok := impl.GenNext(g)
		if !ok || len(next.Tasks) != many || v.Kind != g.Tasks[many].V.Kind || next.Fuel != 0 {
			t.Fatalf("%d tasks, %v", len(next.Tasks), v)
		}
		g = next
	}
	// What is told next may leave more tasks, or more filters that wait, than there may be: then that is not ok.
	many := impl.Gen{Tasks: slices.Repeat(alone(num(1)), 2000), Fuel: 5}
	many.Tasks[1999] = waits(row(num(1), num(2)), 1, filtOf(impl.FiltEach))
	next, ok := wantNext(t, many)
	if !ok || len(next.Tasks) != 2000 || !impl.GenOk(next) {
		t.Errorf("%d tasks", len(next.Tasks))
	}
	many.Tasks[1999].V = row(num(1), num(2), num(3))
	next, ok = wantNext(t, many)
	if !ok || len(next.Tasks) != 2001 {
		t.Errorf("%d tasks", len(next.Tasks))
	}
	wantNoGen(t, "one task more", next)
	full := impl.Gen{Tasks: []impl.Task{waits(num(1), 40, filtOf(impl.FiltId))}, Fuel: 50}
	full.Tasks[0].Todo[0] = readFilt(t, "pipe both . . .")
	next, ok = wantNext(t, full)
	if !ok || len(next.Tasks) != 1 || len(next.Tasks[0].Todo) != 41 || next.Fuel != 7 {
		t.Errorf("%.300s", plainGen(next))
	}
	wantNoGen(t, "one filter more that waits", next)
	// As many tasks, with as much waiting, as a filter can make of a tree.
	widest := impl.GenOpen(readFilt(t, strings.ReplaceAll("pipe [] pipe =R pipe [] pipe =R pipe [] pipe =R []", "R", rowText(57))), wide(59), impl.RunFuel)
	for range 5 {
		widest, _ = wantNext(t, widest)
		if len(widest.Tasks) < 200 || !impl.GenOk(widest) {
			t.Fatalf("%d tasks of what was opened", len(widest.Tasks))
		}
	}
}

// roomyGen is a Gen in lists with spare room in which something lies.
func roomyGen(g impl.Gen) impl.Gen {
	tasks := make([]impl.Task, 0, len(g.Tasks)+2)
	for _, task := range g.Tasks {
		tasks = append(tasks, impl.Task{V: roomy(task.V), Todo: roomyFilt(join(0, task.Todo...)).Kids})
	}
	copy(tasks[len(tasks):cap(tasks)], alone(num(77), str("left")))
	g.Tasks = tasks
	return g
}

// spareGen is a copy of a Gen with all that lies behind the ends of its lists moved into them.
func spareGen(g impl.Gen) impl.Gen {
	tasks := slices.Clone(g.Tasks[:cap(g.Tasks)])
	for i, task := range tasks {
		tasks[i] = impl.Task{V: spare(task.V), Todo: spareFilt(join(0, task.Todo...)).Kids}
	}
	g.Tasks = tasks
	return g
}

// inGen is all that lies in a Gen, spare room included, as filters.
func inGen(g impl.Gen) []impl.Filt {
	var all []impl.Filt
	for _, task := range g.Tasks[:cap(g.Tasks)] {
		all = append(all, lit(task.V), impl.Filt{Kids: task.Todo})
	}
	return all
}

// soil writes into all lists of filters, spare room included.
func soil(filters []impl.Filt) {
	for _, f := range filters {
		inFilt(f, func(part impl.Filt) {
			lists(part.V, func(keys []string) { fill(keys, "X") }, func(list []impl.Val) { fill(list, impl.Val{Kind: 99}) })
			fill(part.Kids[:cap(part.Kids)], impl.Filt{Kind: 99})
		})
	}
}

// runPairs is filters and trees, those drawn, and some of which much is told twice.
func runPairs(t *testing.T, d *dice, many int) ([]impl.Filt, []impl.Val) {
	filters, trees := d.filters(many), d.fruits(many)
	for i := range filters {
		filters[i] = d.tame(filters[i])
	}
	for _, text := range []string{"both . .", "both both . . both . .", "pipe both . . both . .", "both =[1,{a:2}] =[1,{a:2}]", "pipe both . . =[1,{a:2}]", "if both =1 =2 . .", "add both . . both =null =null", "row both . .", "else both . . .", "try both . .", "make:k both . .", "turn both .a: .b: =[1]", "turn . .", "pipe [] both . .", "pipe both [] [] .", "pipe .a: both [] .", "both turn .a: . turn .b: .", "both add .a: =null .a:", "else none .", "keys", "pipe . both keys keys"} {
		filters, trees = append(filters, readFilt(t, text)), append(trees, read(t, "{a:[1,{a:2}],b:{a:[3],b:[[]]}}"))
	}
	return filters, trees
}

func TestRunWritesIntoNoArgument(t *testing.T) {
	d := dice(75)
	filters, trees := runPairs(t, &d, 2000)
	filters, trees = append(filters, join(impl.FiltTurn, filtOf(impl.FiltLen), lit(row())), filtOf(impl.FiltEach)), append(trees, row(num(1)), impl.Val{Kind: 99, List: []impl.Val{{}}})
	for i, f := range filters {
		f, v := roomyFilt(f), roomy(trees[i])
		beforeF, beforeV := spareFilt(f), spare(v)
		g := impl.GenOpen(f, v, 60)
		list, code, left := impl.Run(f, v, 60)
		one, single := impl.RunOne(f, v)
		if !equalFilt(spareFilt(f), beforeF) || !equal(spare(v), beforeV) {
			t.Fatalf("written into %v or %v", f, v)
		}
		// What is told again is the same.
		again, againCode, againLeft := impl.Run(f, v, 60)
		oneMore, singleMore := impl.RunOne(f, v)
		if !equalTrees(again, list) || againCode != code || againLeft != left || !equal(one, oneMore) || single != singleMore || !equalGen(g, impl.GenOpen(f, v, 60)) {
			t.Fatalf("%v of %v is another one the second time", f, v)
		}
	}
}

func TestRunTellsInNewMemory(t *testing.T) {
	d := dice(76)
	filters, trees := runPairs(t, &d, 2000)
	for i, f := range filters {
		v, what := roomy(trees[i]), plainFilt(f)
		f = roomyFilt(f)
		list, _, _ := impl.Run(f, v, impl.RunFuel)
		one, _ := impl.RunOne(f, v)
		given := []impl.Filt{f, lit(v), lit(impl.Val{Kind: impl.ValRow, List: list}), lit(one)}
		apartFilts(t, what, append(given, inGen(impl.GenOpen(f, v, 5))...)...)
		// Whatever becomes of the answers, what was given is as it was.
		soil(given[2:])
		if !equalFilt(f, roomyFilt(filters[i])) || !equal(v, trees[i]) {
			t.Fatalf("%s lies in what is told", what)
		}
	}
}

func TestGenNextWritesIntoNoArgumentAndTellsInNewMemory(t *testing.T) {
	d := dice(77)
	var list []impl.Gen
	for range 2000 {
		list = append(list, d.gen())
	}
	filters, trees := runPairs(t, &d, 500)
	for i, f := range filters {
		list = append(list, impl.GenOpen(f, trees[i], 30), impl.Gen{Tasks: []impl.Task{{V: trees[i], Todo: []impl.Filt{f, filtOf(1), f}}, {V: trees[i], Todo: []impl.Filt{f, f}}}, Fuel: 40})
	}
	list = append(list, impl.Gen{Tasks: alone(num(1), impl.Val{Kind: 99, List: []impl.Val{{}}})}, impl.Gen{Fuel: -1, Tasks: alone(row(num(1)))})
	for _, g := range list {
		g = roomyGen(g)
		before := spareGen(g)
		ok := impl.GenOk(g)
		next, v, told := impl.GenNext(g)
		if !equalGen(spareGen(g), before) {
			t.Fatalf("written into %v", before)
		}
		again, w, toldAgain := impl.GenNext(g)
		if !equalGen(next, again) || !equal(v, w) || told != toldAgain || impl.GenOk(g) != ok {
			t.Fatalf("%v is another one the second time", before)
		}
		apartFilts(t, "what is told next", slices.Concat(inGen(g), inGen(next), inGen(again), []impl.Filt{lit(v), lit(w)})...)
		places := map[*impl.Task]bool{}
		for _, tasks := range [][]impl.Task{g.Tasks, next.Tasks, again.Tasks} {
			tasks = tasks[:cap(tasks)]
			for i := range tasks {
				if places[&tasks[i]] {
					t.Fatal("a task lies in two lists")
				}
				places[&tasks[i]] = true
			}
		}
		soil(append(inGen(next), lit(v)))
		fill(next.Tasks[:cap(next.Tasks)], impl.Task{Todo: []impl.Filt{{}}})
		if third, x, _ := impl.GenNext(g); !equalGen(third, again) || !equal(x, w) || !equalGen(spareGen(g), before) {
			t.Fatalf("%v lies in what is told of it", before)
		}
	}
}

func TestGenOfTheSameListsInSeveralTasks(t *testing.T) {
	v := read(t, "[1,[2],{a:[3]}]")
	todo := []impl.Filt{readFilt(t, "both . []"), readFilt(t, "try [1]"), readFilt(t, "=[1,[2]]")}
	g := impl.Gen{Tasks: []impl.Task{{V: v, Todo: todo}, {V: v, Todo: todo[1:]}, {V: v, Todo: todo[:1]}, {V: v.List[2], Todo: todo[:0]}}, Fuel: 100}
	for ok := true; ok; {
		next, still := wantNext(t, g)
		apartFilts(t, "tasks with the same lists", slices.Concat(inGen(next), todo, []impl.Filt{lit(v)})...)
		g, ok = next, still
	}
}
