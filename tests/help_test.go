package tests

import (
	"sort"
	"strconv"
	"strings"
	"testing"

	"loop.example/cribble/impl"
)

// read is the tree of a text that must be one.
func read(t *testing.T, text string) impl.Val {
	t.Helper()
	v, ok := impl.ValRead(text)
	if !ok {
		t.Fatalf("%q is not read", text)
	}
	return v
}

func num(n int) impl.Val { return impl.Val{Kind: impl.ValNum, N: n} }

func str(s string) impl.Val { return impl.Val{Kind: impl.ValStr, S: s} }

func row(list ...impl.Val) impl.Val { return impl.Val{Kind: impl.ValRow, List: list} }

func keyed(keys []string, list ...impl.Val) impl.Val {
	return impl.Val{Kind: impl.ValMap, Keys: keys, List: list}
}

// rows is a tree around which there are so many rows.
func rows(around int, v impl.Val) impl.Val {
	for range around {
		v = row(v)
	}
	return v
}

// wide is a row of nothing but so many numbers.
func wide(many int) impl.Val {
	v := row()
	for i := range many {
		v.List = append(v.List, num(i))
	}
	return v
}

// equal compares two trees field by field, without the program.
func equal(a, b impl.Val) bool {
	if a.Kind != b.Kind || a.N != b.N || a.S != b.S || len(a.Keys) != len(b.Keys) || len(a.List) != len(b.List) {
		return false
	}
	for i := range a.Keys {
		if a.Keys[i] != b.Keys[i] {
			return false
		}
	}
	for i := range a.List {
		if !equal(a.List[i], b.List[i]) {
			return false
		}
	}
	return true
}

// clone is a tree in memory of its own, spare room included.
func clone(v impl.Val) impl.Val {
	v.Keys = append(make([]string, 0, cap(v.Keys)), v.Keys[:cap(v.Keys)]...)[:len(v.Keys)]
	list := make([]impl.Val, 0, cap(v.List))
	for _, part := range v.List[:cap(v.List)] {
		list = append(list, clone(part))
	}
	v.List = list[:len(v.List)]
	return v
}

// spare is a tree with all that lies behind the ends of its lists moved into them, so that equal sees it.
func spare(v impl.Val) impl.Val {
	v = clone(v)
	v.Keys = v.Keys[:cap(v.Keys)]
	v.List = v.List[:cap(v.List)]
	for i := range v.List {
		v.List[i] = spare(v.List[i])
	}
	return v
}

// plain writes a tree as the document's table says, without the program.
func plain(v impl.Val) string {
	var texts []string
	for i, part := range v.List {
		text := plain(part)
		if v.Kind == impl.ValMap {
			text = v.Keys[i] + ":" + text
		}
		texts = append(texts, text)
	}
	all := strings.Join(texts, ",")
	switch v.Kind {
	case impl.ValNone:
		return "null"
	case impl.ValNo:
		return "false"
	case impl.ValYes:
		return "true"
	case impl.ValNum:
		return strconv.Itoa(v.N)
	case impl.ValStr:
		return "'" + v.S + "'"
	case impl.ValRow:
		return "[" + all + "]"
	}
	return "{" + all + "}"
}

// many counts parts without the program.
func many(v impl.Val) int {
	n := 1
	for _, part := range v.List {
		n += many(part)
	}
	return n
}

// dice is a row of numbers that look like chance, and are the same in each run.
type dice uint64

func (d *dice) below(n int) int {
	*d = *d*6364136223846793005 + 1442695040888963407
	return int(uint64(*d) >> 33 % uint64(n))
}

func (d *dice) text() string {
	letters := ""
	for range d.below(4) {
		letters += string(rune('a' + d.below(3)))
	}
	if d.below(12) == 0 {
		letters = strings.Repeat("z", impl.ValLong)
	}
	return letters
}

// tree makes a tree that is ok; room is how many parts it may have, deep how many may be around one another.
func (d *dice) tree(room *int, deep int) impl.Val {
	*room--
	kind := d.below(7)
	if deep == 1 {
		kind = d.below(5)
	}
	v := impl.Val{Kind: kind}
	switch kind {
	case impl.ValNum:
		v.N = [...]int{0, 1, -1, 7, -10, 100, impl.ValMost, -impl.ValMost}[d.below(8)]
	case impl.ValStr:
		v.S = d.text()
	case impl.ValMap:
		v.Keys = d.keys()
	}
	for i := 0; *room > 0 && (kind == impl.ValRow && i < 4 && d.below(4) > 0 || i < len(v.Keys)); i++ {
		v.List = append(v.List, d.tree(room, deep-1))
	}
	v.Keys = v.Keys[:min(len(v.Keys), len(v.List))]
	return v
}

func (d *dice) keys() []string {
	had := map[string]bool{}
	for range d.below(5) {
		had[d.text()] = true
	}
	var keys []string
	for key := range had {
		keys = append(keys, key)
	}
	sort.Strings(keys)
	return keys
}

// trees is so many trees that are ok.
func (d *dice) trees(n int) []impl.Val {
	var list []impl.Val
	for range n {
		room := impl.ValSize
		list = append(list, d.tree(&room, 1+d.below(impl.ValDeep)))
	}
	return list
}

// deep is how many parts of a tree are around one another, without the program.
func deep(v impl.Val) int {
	n := 0
	for _, part := range v.List {
		n = max(n, deep(part))
	}
	return n + 1
}

// fits says whether a tree that was put together of trees that are ok is within all bounds, without the program.
func fits(v impl.Val) bool {
	inside := v.N >= -impl.ValMost && v.N <= impl.ValMost && len(v.S) <= impl.ValLong
	return inside && many(v) <= impl.ValSize && deep(v) <= impl.ValDeep
}

// apart asks that no two lists of these trees, spare room included, lie in the same memory.
func apart(t *testing.T, what string, trees ...impl.Val) {
	t.Helper()
	keyPlaces, listPlaces := map[*string]bool{}, map[*impl.Val]bool{}
	for _, v := range trees {
		lists(v, func(keys []string) {
			for i := range keys {
				if keyPlaces[&keys[i]] {
					t.Fatalf("%s: a key lies in two lists", what)
				}
				keyPlaces[&keys[i]] = true
			}
		}, func(list []impl.Val) {
			for i := range list {
				if listPlaces[&list[i]] {
					t.Fatalf("%s: a tree lies in two lists", what)
				}
				listPlaces[&list[i]] = true
			}
		})
	}
}

// lists calls with each list of a tree, spare room included.
func lists(v impl.Val, keys func([]string), list func([]impl.Val)) {
	for _, part := range v.List {
		lists(part, keys, list)
	}
	keys(v.Keys[:cap(v.Keys)])
	list(v.List[:cap(v.List)])
}

// roomy is a tree in lists with spare room in which something lies.
func roomy(v impl.Val) impl.Val {
	list := make([]impl.Val, 0, len(v.List)+2)
	for _, part := range v.List {
		list = append(list, roomy(part))
	}
	keys := append(make([]string, 0, len(v.Keys)+2), v.Keys...)
	copy(list[len(list):cap(list)], []impl.Val{num(77), str("left")})
	copy(keys[len(keys):cap(keys)], []string{"left", "behind"})
	v.List, v.Keys = list, keys
	return v
}
