package tests

import (
	"math"
	"slices"
	"strconv"
	"strings"
	"testing"

	"loop.example/cribble/impl"
)

// steps is a way: a text is a key, a number a place.
func steps(list ...any) []impl.Step {
	var p []impl.Step
	for _, x := range list {
		switch x := x.(type) {
		case string:
			p = append(p, impl.Step{Map: true, Key: x})
		case int:
			p = append(p, impl.Step{At: x})
		}
	}
	return p
}

// plainWay writes a way as the document says, without the program.
func plainWay(p []impl.Step) string {
	texts := []string{"$"}
	for _, s := range p {
		if s.Map {
			texts = append(texts, "."+s.Key)
		} else {
			texts = append(texts, "["+strconv.Itoa(s.At)+"]")
		}
	}
	return strings.Join(texts, "")
}

// wayOk says whether steps are a way, without the program.
func wayOk(p []impl.Step) bool {
	for _, s := range p {
		letters := strings.Trim(s.Key, "abcdefghijklmnopqrstuvwxyz") == "" && len(s.Key) <= 12
		if s.Map && (!letters || s.At != 0) || !s.Map && (s.Key != "" || s.At < -60 || s.At > 59) {
			return false
		}
	}
	return len(p) <= 6
}

// getAlong is the tree at the end of a way, without the program, and whether it can be asked.
func getAlong(v impl.Val, p []impl.Step) (impl.Val, bool) {
	for _, s := range p {
		at := s.At
		if at < 0 {
			at += len(v.List)
		}
		switch {
		case v.Kind == impl.ValNone:
		case s.Map && v.Kind == impl.ValMap:
			v = getModel(v, s.Key)
		case !s.Map && v.Kind == impl.ValRow && at >= 0 && at < len(v.List):
			v = v.List[at]
		case !s.Map && v.Kind == impl.ValRow:
			v = impl.Val{}
		default:
			return impl.Val{}, false
		}
	}
	return v, true
}

// putAlong puts a tree at the end of a way, without the program, and tells whether it can be put.
func putAlong(v impl.Val, p []impl.Step, x impl.Val) (impl.Val, bool) {
	if len(p) == 0 {
		return x, true
	}
	inner, ok := getAlong(v, p[:1])
	if !ok {
		return impl.Val{}, false
	}
	inner, ok = putAlong(inner, p[1:], x)
	if !ok {
		return impl.Val{}, false
	}
	if p[0].Map {
		return putModel(v, p[0].Key, inner), true
	}
	at, list := p[0].At, slices.Clone(v.List)
	if at < 0 {
		at += len(list)
	}
	if at < 0 {
		return impl.Val{}, false
	}
	for len(list) <= at {
		list = append(list, impl.Val{})
	}
	list[at] = inner
	return row(list...), true
}

// wantPut asks for what the model puts, and that it is got at the end of the way then.
func wantPut(t *testing.T, v impl.Val, p []impl.Step, x impl.Val) bool {
	t.Helper()
	what := "put " + plain(v) + " " + plainWay(p) + " " + plain(x)
	want, can := putAlong(v, p, x)
	got, ok := impl.PathPut(v, p, x)
	if !can {
		wantPart(t, what, "", got, ok)
		return false
	}
	wantModel(t, what, want, got, ok)
	if ok {
		end, can := impl.PathGet(got, p)
		wantPart(t, what+", then get", plain(x), end, can)
	}
	return ok
}

// wrongWays is steps that are no way, by what is wrong with them.
func wrongWays() map[string][]impl.Step {
	wrong := map[string][]impl.Step{
		"a long key":                steps(strings.Repeat("k", impl.ValLong+1)),
		"a place too far":           steps(impl.ValSize),
		"a place too far from end":  steps(-impl.ValSize - 1),
		"the farthest place":        steps(math.MaxInt),
		"the farthest from end":     steps(math.MinInt),
		"a key of a place":          {{Key: "a"}},
		"a key and a place":         {{Key: "a", At: 1}},
		"a place of a key":          {{Map: true, Key: "a", At: 1}},
		"a place of an empty key":   {{Map: true, At: 1}},
		"a place below 0 of a key":  {{Map: true, Key: "a", At: -1}},
		"a wrong key of a place":    {{Key: "A"}},
		"keys, one more":            steps("a", "a", "a", "a", "a", "a", "a"),
		"places, one more":          steps(0, 0, 0, 0, 0, 0, 0),
		"keys and places, one more": steps("", 0, "", 0, "", 0, ""),
		"very many":                 make([]impl.Step, 100000),
		"a wrong one as the last":   steps("a", "a", "a", "a", "a", "A"),
	}
	for _, s := range []string{"A", "Z", "`", "{", "0", "-", " ", "a a", "a.", "[", "]", "$", "é", "\x00", "a\xff", "\uFFFD"} {
		wrong["key "+s] = steps(s)
	}
	return wrong
}

// goodWays is ways at the edges of what they may be.
func goodWays() [][]impl.Step {
	long := strings.Repeat("z", impl.ValLong)
	return [][]impl.Step{
		nil, {}, steps("a"), steps(""), steps(long), steps(0), steps(1), steps(-1), steps(10), steps(-10), steps(impl.ValSize - 1), steps(-impl.ValSize),
		steps("", ""), steps("", "", "", "", "", ""), steps("a", "b", "c", "d", "e", "f"), steps(0, 0, 0, 0, 0, 0), steps(long, long, long, long, long, long),
		steps(-60, -60, -60, -60, -60, -60), steps("a", 0, "", -1, "z", 59), steps(0, ""), steps("", 0), steps("a", ""), steps("", "a"),
	}
}

func TestPathOk(t *testing.T) {
	for _, p := range goodWays() {
		if !impl.PathOk(p) {
			t.Errorf("%s is no way", plainWay(p))
		}
	}
	for what, p := range wrongWays() {
		if impl.PathOk(p) {
			t.Errorf("%s: a way", what)
		}
		for _, good := range goodWays()[:12] {
			if impl.PathOk(append(slices.Clone(good), p...)) || impl.PathOk(append(slices.Clone(p), good...)) {
				t.Errorf("%s with %s: a way", what, plainWay(good))
			}
		}
	}
	for at := -impl.ValSize - 3; at < impl.ValSize+3; at++ {
		if got := impl.PathOk(steps(at)); got != (at >= -impl.ValSize && at <= impl.ValSize-1) {
			t.Errorf("place %d: %v", at, got)
		}
	}
	for many := range 2 * impl.PathLong {
		for _, s := range []impl.Step{{}, {Map: true}, {Map: true, Key: "a"}} {
			if got := impl.PathOk(slices.Repeat([]impl.Step{s}, many)); got != (many <= impl.PathLong) {
				t.Errorf("%d steps: %v", many, got)
			}
		}
	}
}

func TestPathGet(t *testing.T) {
	for _, c := range []struct {
		tree string
		way  []impl.Step
		want string
	}{
		{"{a:[1,{b:2}],c:null}", nil, "{a:[1,{b:2}],c:null}"}, {"{a:[1,{b:2}],c:null}", steps("a"), "[1,{b:2}]"}, {"{a:[1,{b:2}],c:null}", steps("a", 1), "{b:2}"}, {"{a:[1,{b:2}],c:null}", steps("a", -1, "b"), "2"},
		{"[[1,2],[3,4]]", steps(0, 1), "2"}, {"[[1,2],[3,4]]", steps(1, 0), "3"}, {"[[1,2],[3,4]]", steps(-1, -2), "3"}, {"[[1,2],[3,4]]", steps(-2), "[1,2]"},
		{"{a:{b:{c:{d:{e:5}}}}}", steps("a", "b", "c", "d", "e"), "5"}, {"[[[[[5]]]]]", steps(0, 0, 0, 0, 0), "5"}, {"[[[[[5]]]]]", steps(-1, -1, -1, -1, -1), "5"},
		// A way through nothing.
		{"{a:[1,{b:2}],c:null}", steps("z"), "null"}, {"{a:[1,{b:2}],c:null}", steps("z", 3, "y", -7), "null"}, {"{a:[1,{b:2}],c:null}", steps("c", "x", 3), "null"}, {"{a:[1,{b:2}],c:null}", steps("a", 2, "b"), "null"}, {"{a:[1,{b:2}],c:null}", steps("a", -3, "b"), "null"},
		{"null", steps("a", 0, "", -60, "z", 59), "null"}, {"null", nil, "null"}, {"{}", steps("a", "b"), "null"}, {"[]", steps(0, 0), "null"}, {"[null]", steps(0, "a"), "null"}, {"[]", steps(59), "null"}, {"[]", steps(-60), "null"}, {"[1]", steps(59), "null"}, {"[1]", steps(-60), "null"},
		// A key that is empty.
		{"{:7}", steps(""), "7"}, {"{:{:7}}", steps("", ""), "7"}, {"{a:1}", steps(""), "null"}, {"{:{a:8},a:9}", steps("", "a"), "8"}, {"{:{a:8},a:9}", steps("a"), "9"}, {"[{:7}]", steps(0, ""), "7"}, {"{:[7]}", steps("", 0), "7"},
		// A way through a kind of which it can not be asked.
		{"{a:[1,{b:2}],c:null}", steps("a", "b"), ""}, {"{a:[1,{b:2}],c:null}", steps(0), ""}, {"{a:[1,{b:2}],c:null}", steps("a", 1, 0), ""}, {"{a:[1,{b:2}],c:null}", steps("a", 1, "b", "x"), ""}, {"{a:[1,{b:2}],c:null}", steps("a", 0, "x", "y"), ""},
		{"1", steps("a"), ""}, {"1", steps(0), ""}, {"'a'", steps(0), ""}, {"'a'", steps("a"), ""}, {"true", steps("a"), ""}, {"false", steps("a"), ""}, {"false", steps(0), ""}, {"true", steps(0), ""}, {"[]", steps(""), ""}, {"{}", steps(0), ""}, {"[false]", steps(0, 0), ""}, {"{:''}", steps("", ""), ""},
		{"5", nil, "5"}, {"'a'", nil, "'a'"}, {"false", nil, "false"}, {"[]", nil, "[]"}, {"{}", []impl.Step{}, "{}"},
	} {
		got, ok := impl.PathGet(read(t, c.tree), c.way)
		wantPart(t, "get "+c.tree+" "+plainWay(c.way), c.want, got, ok)
	}
}

func TestPathPut(t *testing.T) {
	for _, c := range []struct {
		tree string
		way  []impl.Step
		x    string
		want string
	}{
		{"{a:[1,{b:2}],c:null}", nil, "5", "5"}, {"5", nil, "{a:1}", "{a:1}"}, {"null", []impl.Step{}, "null", "null"}, {"[1]", nil, "null", "null"},
		{"{a:[1,{b:2}],c:null}", steps("a"), "5", "{a:5,c:null}"}, {"{a:[1,{b:2}],c:null}", steps("a", 0), "5", "{a:[5,{b:2}],c:null}"}, {"{a:[1,{b:2}],c:null}", steps("a", -1, "b"), "5", "{a:[1,{b:5}],c:null}"}, {"{a:[1,{b:2}],c:null}", steps("a", 1, "a"), "[5]", "{a:[1,{a:[5],b:2}],c:null}"},
		{"[[1,2],[3,4]]", steps(0, 1), "5", "[[1,5],[3,4]]"}, {"[[1,2],[3,4]]", steps(-1, -2), "5", "[[1,2],[5,4]]"}, {"[[1,2],[3,4]]", steps(-2), "null", "[null,[3,4]]"},
		// A way through nothing makes what is not there.
		{"{a:[1,{b:2}],c:null}", steps("c", "d", 1), "5", "{a:[1,{b:2}],c:{d:[null,5]}}"}, {"{a:[1,{b:2}],c:null}", steps("b", 0, "x"), "5", "{a:[1,{b:2}],b:[{x:5}],c:null}"}, {"{a:[1,{b:2}],c:null}", steps("a", 3, "x"), "5", "{a:[1,{b:2},null,{x:5}],c:null}"}, {"{a:[1,{b:2}],c:null}", steps("c", 2), "null", "{a:[1,{b:2}],c:[null,null,null]}"},
		{"null", steps("a"), "null", "{a:null}"}, {"null", steps(1), "null", "[null,null]"}, {"null", steps("a", 0, "b", 1, "c"), "5", "{a:[{b:[null,{c:5}]}]}"}, {"{}", steps("a"), "5", "{a:5}"}, {"[]", steps(2), "5", "[null,null,5]"}, {"[]", steps(1, 1), "5", "[null,[null,5]]"},
		{"null", steps(-1), "5", ""}, {"[]", steps(-1), "5", ""}, {"[1]", steps(-2), "5", ""}, {"[1]", steps(-2, "a"), "5", ""}, {"[1]", steps(-1), "5", "[5]"}, {"{}", steps("a", -1), "5", ""}, {"{a:[]}", steps("a", -1, 0), "5", ""}, {"{a:[null]}", steps("a", -1, 0), "5", "{a:[[5]]}"},
		// A key that is empty.
		{"{a:1}", steps(""), "5", "{:5,a:1}"}, {"{:1}", steps(""), "5", "{:5}"}, {"null", steps("", ""), "5", "{:{:5}}"}, {"{:{a:8},a:9}", steps("", "a"), "5", "{:{a:5},a:9}"}, {"{a:1}", steps("", "a"), "5", "{:{a:5},a:1}"}, {"[{}]", steps(0, ""), "5", "[{:5}]"}, {"null", steps("", 0), "5", "{:[5]}"},
		// A way through a kind of which it can not be asked.
		{"{a:[1,{b:2}],c:null}", steps("a", "b"), "5", ""}, {"{a:[1,{b:2}],c:null}", steps(0), "5", ""}, {"{a:[1,{b:2}],c:null}", steps("a", 0, "x"), "5", ""}, {"{a:[1,{b:2}],c:null}", steps("a", 0, 0), "5", ""}, {"{a:[1,{b:2}],c:null}", steps("a", 1, 0), "5", ""},
		{"1", steps("a"), "5", ""}, {"1", steps(0), "5", ""}, {"'a'", steps(0), "5", ""}, {"'a'", steps("a"), "5", ""}, {"true", steps("a"), "5", ""}, {"false", steps("a"), "5", ""}, {"false", steps(0), "5", ""}, {"[]", steps(""), "5", ""}, {"{}", steps(0), "5", ""}, {"{:''}", steps("", ""), "5", ""},
	} {
		got, ok := impl.PathPut(read(t, c.tree), c.way, read(t, c.x))
		wantPart(t, "put "+c.tree+" "+plainWay(c.way)+" "+c.x, c.want, got, ok)
	}
}

func TestPathPutMeetsBounds(t *testing.T) {
	for around := range impl.ValDeep {
		for long := range impl.PathLong + 1 {
			x, done := rows(around, num(1)), around+long < impl.ValDeep
			for _, s := range []impl.Step{{}, {Map: true}, {Map: true, Key: "a"}} {
				if wantPut(t, impl.Val{}, slices.Repeat([]impl.Step{s}, long), x) != done {
					t.Errorf("%d steps and %d around: not %v", long, around, done)
				}
			}
		}
	}
	// A tree into which it is put that is too deep already stands in a part beside the way: it stays.
	beside := row(rows(impl.ValDeep-2, num(1)), impl.Val{})
	wantPut(t, beside, steps(1), num(5))
	wantPut(t, beside, steps(0, 0, 0, 0, 0), row())
	wantPut(t, beside, steps(0, 0, 0, 0, 0, 0), num(5))
	wantPut(t, beside, steps(1, 0, 0, 0, 0), num(5))
	wantPut(t, beside, steps(1, 0, 0, 0, 0, 0), num(5))
	for size := range impl.ValSize {
		x := wide(size)
		two := row(keyed([]string{"a"}, num(1)), wide(3))
		wantPut(t, two, steps(0, "a"), x)
		wantPut(t, two, steps(0, "b"), x)
		wantPut(t, two, steps(1), x)
		wantPut(t, two, steps(1, 5), x)
		wantPut(t, two, nil, x)
		wantPut(t, impl.Val{}, steps("a", "b"), x)
		wantPut(t, impl.Val{}, steps(size, "b"), num(1))
		wantPut(t, impl.Val{}, steps("b", size), num(1))
		wantPut(t, impl.Val{}, steps(size/2, size-size/2), num(1))
		wantPut(t, x, steps(size), num(1))
		wantPut(t, x, steps(-size), num(1))
		wantPut(t, row(x), steps(0, size), num(1))
		wantPut(t, row(x), steps(0, -1), row(num(1)))
	}
	// What a great tree is put in the place of counts no more, wherever it lies.
	great := row(keyed([]string{"a"}, wide(impl.ValSize-3)))
	if !wantPut(t, great, steps(0, "a"), wide(impl.ValSize-3)) || wantPut(t, great, steps(0, "a"), wide(impl.ValSize-2)) || !wantPut(t, great, steps(0), num(1)) {
		t.Error("a great tree in the place of a great one")
	}
}

func TestPathPutIsGotAndOtherWaysLeadWhereTheyLed(t *testing.T) {
	d := dice(31)
	done := 0
	for _, v := range d.trees(4000) {
		p, x := d.way(v), d.trees(1)[0]
		if !wantPut(t, v, p, x) {
			continue
		}
		done++
		got, _ := impl.PathPut(v, p, x)
		for _, other := range waysModel(v, nil) {
			if related(v, other, p) {
				continue
			}
			want, _ := getAlong(v, other)
			end, ok := impl.PathGet(got, other)
			wantPart(t, plain(v)+" with "+plain(x)+" at "+plainWay(p)+", get "+plainWay(other), plain(want), end, ok)
		}
		for _, other := range waysModel(got, nil) {
			if len(other) > impl.PathLong || related(v, other, p) {
				continue
			}
			// What is there now and was not is nothing.
			want, ok := getAlong(v, other)
			end, can := getAlong(got, other)
			if !ok || !can || !equal(want, end) {
				t.Errorf("%s with %s at %s: %s is %s, not %s", plain(v), plain(x), plainWay(p), plainWay(other), plain(end), plain(want))
			}
		}
	}
	if done < 1000 {
		t.Fatalf("only %d were put", done)
	}
}

// way is steps into a tree, mostly such as lead somewhere in it.
func (d *dice) way(v impl.Val) []impl.Step {
	var p []impl.Step
	for range d.below(impl.PathLong + 1) {
		s := impl.Step{At: d.below(6) - 2}
		switch {
		case v.Kind == impl.ValMap && len(v.Keys) > 0 && d.below(4) > 0:
			s = impl.Step{Map: true, Key: v.Keys[d.below(len(v.Keys))]}
		case v.Kind == impl.ValMap || v.Kind != impl.ValRow && d.below(2) == 0:
			s = impl.Step{Map: true, Key: d.text()}
		}
		p = append(p, s)
		next, ok := getAlong(v, []impl.Step{s})
		if !ok && d.below(8) > 0 {
			return p[:len(p)-1]
		}
		v = next
	}
	return p
}

// waysModel is all ways into a tree, without the program.
func waysModel(v impl.Val, ahead []impl.Step) [][]impl.Step {
	all := [][]impl.Step{ahead}
	for i, part := range v.List {
		s := impl.Step{At: i}
		if v.Kind == impl.ValMap {
			s = impl.Step{Map: true, Key: v.Keys[i]}
		}
		all = append(all, waysModel(part, append(slices.Clone(ahead), s))...)
	}
	return all
}

// related says whether one of two ways into a tree leads through the end of the other one.
func related(v impl.Val, a []impl.Step, b []impl.Step) bool {
	for i := range min(len(a), len(b)) {
		inner, _ := getAlong(v, a[:i])
		x, y := a[i], b[i]
		for _, s := range []*impl.Step{&x, &y} {
			if s.At < 0 {
				s.At += len(inner.List)
			}
		}
		if x != y {
			return false
		}
	}
	return true
}

func TestPathGetOfMany(t *testing.T) {
	d := dice(32)
	could := 0
	for _, v := range d.trees(8000) {
		p := d.way(v)
		want, can := getAlong(v, p)
		got, ok := impl.PathGet(v, p)
		text := ""
		if can {
			could++
			text = plain(want)
		}
		wantPart(t, "get "+plain(v)+" "+plainWay(p), text, got, ok)
	}
	if could < 4000 || could > 7900 {
		t.Fatalf("%d of 8000 could be got", could)
	}
}

func TestPathAll(t *testing.T) {
	for text, want := range map[string]string{
		"null": "$", "false": "$", "true": "$", "5": "$", "'abc'": "$", "[]": "$", "{}": "$",
		"[1]": "$ $[0]", "{:1}": "$ $.", "{a:1}": "$ $.a", "[null,[],{}]": "$ $[0] $[1] $[2]",
		"{a:[1,{b:2}],c:null}":      "$ $.a $.a[0] $.a[1] $.a[1].b $.c",
		"{:{:{:1}},a:1}":            "$ $. $.. $... $.a",
		"[[1,[2]],3,{a:4,aa:[5]}]":  "$ $[0] $[0][0] $[0][1] $[0][1][0] $[1] $[2] $[2].a $[2].aa $[2].aa[0]",
		"[[[[[1,2]]]]]":             "$ $[0] $[0][0] $[0][0][0] $[0][0][0][0] $[0][0][0][0][0] $[0][0][0][0][1]",
		"{a:{a:{a:{a:{a:1}}}},b:1}": "$ $.a $.a.a $.a.a.a $.a.a.a.a $.a.a.a.a.a $.b",
	} {
		var got []string
		for _, p := range impl.PathAll(read(t, text)) {
			got = append(got, plainWay(p))
		}
		if all := strings.Join(got, " "); all != want {
			t.Errorf("ways into %s: %s, not %s", text, all, want)
		}
	}
	d := dice(33)
	for _, v := range append(d.trees(2000), wide(impl.ValSize-1), keyed(wideKeys(impl.ValSize-1), wide(impl.ValSize-1).List...)) {
		got, want := impl.PathAll(v), waysModel(v, nil)
		if !slices.EqualFunc(got, want, slices.Equal) {
			t.Fatalf("ways into %s: %v, not %v", plain(v), got, want)
		}
		if len(got) != many(v) {
			t.Fatalf("%d ways into %s", len(got), plain(v))
		}
		for _, p := range got {
			end, ok := impl.PathGet(v, p)
			part, _ := getAlong(v, p)
			wantPart(t, plain(v)+" at "+plainWay(p), plain(part), end, ok)
			put, ok := impl.PathPut(v, p, part)
			wantPart(t, plain(v)+" with what is there at "+plainWay(p), plain(v), put, ok)
		}
	}
}

func TestPathAllInMemoryOfItsOwn(t *testing.T) {
	d := dice(34)
	for _, v := range d.trees(500) {
		v := roomy(v)
		before := spare(v)
		all := impl.PathAll(v)
		places := map[*impl.Step]bool{}
		for _, p := range all {
			p = p[:cap(p)]
			for i := range p {
				if places[&p[i]] {
					t.Fatalf("ways into %s share memory", plain(v))
				}
				places[&p[i]] = true
				p[i] = impl.Step{Key: "changed", At: 99}
			}
		}
		if !equal(spare(v), before) {
			t.Fatalf("%s was turned", plain(v))
		}
		if !slices.EqualFunc(impl.PathAll(v), waysModel(v, nil), slices.Equal) {
			t.Fatalf("ways into %s are kept", plain(v))
		}
	}
}

func TestPathTextAndRead(t *testing.T) {
	list := goodWays()
	d := dice(35)
	for range 3000 {
		var p []impl.Step
		for range d.below(impl.PathLong + 1) {
			if d.below(2) == 0 {
				p = append(p, impl.Step{At: d.below(2*impl.ValSize) - impl.ValSize})
			} else {
				p = append(p, impl.Step{Map: true, Key: d.text()})
			}
		}
		list = append(list, p)
	}
	for at := -impl.ValSize; at < impl.ValSize; at++ {
		list = append(list, steps(at))
	}
	for _, p := range list {
		text := plainWay(p)
		if got := impl.PathText(p); got != text {
			t.Errorf("text %s, not %s", got, text)
		}
		got, ok := impl.PathRead(text)
		if !ok || !slices.Equal(got, p) {
			t.Errorf("%s is read as %v, %v", text, got, ok)
		}
	}
	for text, want := range map[string][]impl.Step{
		"$": {}, "$.": {{Map: true}}, "$..": {{Map: true}, {Map: true}}, "$.a": {{Map: true, Key: "a"}}, "$[0]": {{}}, "$[-1]": {{At: -1}},
		"$.[0]": {{Map: true}, {}}, "$[59].ab": {{At: 59}, {Map: true, Key: "ab"}}, "$.a[-60].": {{Map: true, Key: "a"}, {At: -60}, {Map: true}},
	} {
		if got, ok := impl.PathRead(text); !ok || !slices.Equal(got, want) {
			t.Errorf("%s is read as %v, %v", text, got, ok)
		}
		if got := impl.PathText(want); got != text {
			t.Errorf("%v is written %s", want, got)
		}
	}
	for what, p := range wrongWays() {
		if got := impl.PathText(p); got != "" {
			t.Errorf("%s: text %s", what, got)
		}
		// Steps that are no way may be written as another one would be.
		want, can := wayModel(plainWay(p))
		if got, ok := impl.PathRead(plainWay(p)); ok != can || !slices.Equal(got, want) {
			t.Errorf("%s is read as %v, %v", what, got, ok)
		}
	}
}

// wantNoWay asks for nothing to be read.
func wantNoWay(t *testing.T, text string) {
	t.Helper()
	if p, ok := impl.PathRead(text); ok || len(p) > 0 {
		t.Errorf("%q is read as %v, %v", text, p, ok)
	}
}

func TestPathReadsNoOtherText(t *testing.T) {
	for _, text := range []string{
		"", " ", "a", ".", ".a", "[0]", "$$", "$a", "a$", " $", "$ ", "$\n", "\xff", "$\xff", "$\x00", "\uFFFD", "$\uFFFD", "＄", "$0", "$-1", "$,",
		"$[", "$]", "$[]", "$[0", "$0]", "$[0]]", "$[[0]]", "$[0]0", "$[0]a", "$[0] ", "$[0]$", "$[ 0]", "$[0 ]", "$[0,1]", "$[0:1]", "$[a]", "$['a']", "$[0}", "$(0)",
		"$[00]", "$[01]", "$[-0]", "$[-01]", "$[-00]", "$[-]", "$[--1]", "$[+1]", "$[+]", "$[1-]", "$[1-1]", "$[1.0]", "$[1e1]", "$[0x1]", "$[1_0]", "$[１]", "$[٣]", "$[\xff]",
		"$[60]", "$[61]", "$[100]", "$[-61]", "$[-100]", "$[060]", "$[9223372036854775807]", "$[9223372036854775808]", "$[-9223372036854775808]", "$[18446744073709551616]", "$[18446744073709551617]",
		"$.A", "$.a ", "$. a", "$.a b", "$.a,", "$.a]", "$.a:", "$.a0", "$.0", "$.1", "$.-", "$.a-b", "$.'a'", "$.é", "$.\xff", "$.a\xff", "$.a\x00", "$.a$", "$.$", "$.abcdefghijklm",
		"$.a.b.c.d.e.f.g", "$.......", "$[0][0][0][0][0][0][0]", "$.a.b.c.d.e.f[0]", "$[0][0][0][0][0][0].",
	} {
		wantNoWay(t, text)
	}
	for _, n := range []int{119, 120, 121, 1 << 20} {
		for _, c := range []string{".", "a", "0", "1", "-", "[", "]", "[0]", ".a", "$", " ", "\xff"} {
			text := "$" + strings.Repeat(c, n)
			wantNoWay(t, text[:n])
			wantNoWay(t, "$[0]"+text[:n-4])
			wantNoWay(t, "$["+text[1:n-2]+"]")
		}
	}
}

func TestPathReadsJustTheTexts(t *testing.T) {
	letters := []byte("$.[]-012aA")
	for n := range 7 {
		text := make([]byte, n)
		var try func(at int)
		try = func(at int) {
			if at < n {
				for _, c := range letters {
					text[at] = c
					try(at + 1)
				}
				return
			}
			p, ok := impl.PathRead(string(text))
			want, can := wayModel(string(text))
			if ok != can || !slices.Equal(p, want) {
				t.Fatalf("%q is read as %v, %v, not %v, %v", text, p, ok, want, can)
			}
		}
		try(0)
	}
}

// wayModel reads a way without the program: what stands between its marks is cut out, and it is written again.
func wayModel(text string) ([]impl.Step, bool) {
	var p []impl.Step
	for rest := strings.TrimPrefix(text, "$"); rest != ""; {
		end := strings.IndexAny(rest[1:], ".[") + 1
		if end == 0 {
			end = len(rest)
		}
		step := rest[:end]
		rest = rest[end:]
		at, err := strconv.Atoi(strings.TrimSuffix(strings.TrimPrefix(step, "["), "]"))
		if step[0] == '.' {
			p = append(p, impl.Step{Map: true, Key: step[1:]})
		} else if err == nil {
			p = append(p, impl.Step{At: at})
		}
	}
	if !wayOk(p) || plainWay(p) != text {
		return nil, false
	}
	return p, true
}

func TestPathOfWhatIsNotOk(t *testing.T) {
	wrong := wrongTrees()
	wrong["a great number"] = num(impl.ValMost + 1)
	wrong["a wide row"] = wide(impl.ValSize)
	wrong["a deep tree"] = rows(impl.ValDeep, num(1))
	wrong["a tree past all bounds"] = rows(100000, num(1))
	wrong["a row that holds itself"] = round(2)
	for what, v := range wrong {
		for _, outer := range []impl.Val{v, row(num(1), v), keyed([]string{"a", "b"}, num(1), v)} {
			if all := impl.PathAll(outer); len(all) > 0 {
				t.Errorf("%s: %d ways", what, len(all))
			}
			for _, p := range goodWays() {
				got, ok := impl.PathGet(outer, p)
				wantPart(t, what+": get "+plainWay(p), "", got, ok)
				got, ok = impl.PathPut(outer, p, num(1))
				wantPart(t, what+": put "+plainWay(p), "", got, ok)
				got, ok = impl.PathPut(impl.Val{}, p, outer)
				wantPart(t, what+": put it "+plainWay(p), "", got, ok)
			}
		}
	}
	for what, p := range wrongWays() {
		for _, text := range []string{"null", "{a:{a:{}}}", "{:1}", "[[],[]]", "5"} {
			got, ok := impl.PathGet(read(t, text), p)
			wantPart(t, what+": get "+text, "", got, ok)
			got, ok = impl.PathPut(read(t, text), p, num(1))
			wantPart(t, what+": put "+text, "", got, ok)
			got, ok = impl.PathPut(read(t, text), p, impl.Val{})
			wantPart(t, what+": put nothing into "+text, "", got, ok)
		}
	}
}

func TestPathWritesIntoNoArgument(t *testing.T) {
	d := dice(36)
	list := append(d.trees(1500), keyed([]string{"b", "a"}, num(1), num(2)), wide(impl.ValSize))
	for i, v := range list {
		p := append(make([]impl.Step, 0, impl.PathLong+3), d.way(v)...)
		left := p[len(p):cap(p)]
		for i := range left {
			left[i] = impl.Step{Key: "left", At: 77}
		}
		v, x := roomy(v), roomy(list[(i*7+3)%len(list)])
		beforeV, beforeX, beforeP := spare(v), spare(x), slices.Clone(p[:cap(p)])
		got, _ := impl.PathGet(v, p)
		put, _ := impl.PathPut(v, p, x)
		self, _ := impl.PathPut(v, p, v)
		none, _ := impl.PathPut(v, nil, x)
		impl.PathOk(p)
		impl.PathText(p)
		what := plain(v) + " " + plainWay(p)
		apart(t, what, v, x, got, put, none)
		apart(t, what+" with itself", v, self)
		if !equal(spare(v), beforeV) || !equal(spare(x), beforeX) || !slices.Equal(p[:cap(p)], beforeP) {
			t.Fatalf("%s was turned", what)
		}
	}
}

func TestPathReadInMemoryOfItsOwn(t *testing.T) {
	first, _ := impl.PathRead("$.a[1].b")
	second, _ := impl.PathRead("$.a[1].b")
	for _, p := range [][]impl.Step{first, second} {
		p = p[:cap(p)]
		for i := range p {
			if i < 3 && p[i] == (impl.Step{At: 9}) {
				t.Fatal("two answers share memory")
			}
			p[i] = impl.Step{At: 9}
		}
	}
}
