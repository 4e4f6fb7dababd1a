package impl

import (
	"cmp"
	"slices"
	"strconv"
	"strings"
)

// Val is nothing, yes or no, a number, a text, a row of trees, or trees by keys.
type Val struct {
	Kind int
	N    int
	S    string
	Keys []string
	List []Val
}

// Kinds of trees, and bounds.
const (
	ValNone = 0
	ValNo   = 1
	ValYes  = 2
	ValNum  = 3
	ValStr  = 4
	ValRow  = 5
	ValMap  = 6
	ValMost = 1000000
	ValLong = 12
	ValSize = 60
	ValDeep = 6
)

// valBytes is how many bytes a text may have that is read as a tree.
const valBytes = 2500

// bareWords are the texts of the kinds that have nothing else, by kind.
var bareWords = [3]string{"null", "false", "true"}

// ValOk says whether a tree is one.
func ValOk(v Val) bool {
	_, ok := treeOf(v)
	return ok
}

// ValSame says whether two trees are one.
func ValSame(a Val, b Val) bool { return ValOrder(a, b) == 0 }

// ValOrder is below 0, if the first tree comes ahead, above 0, if it comes behind, and 0, if they are one.
func ValOrder(a Val, b Val) int {
	walk := orderWalk{seen: map[listPair]struct{}{}}
	order := walk.meet(a, b)
	for order == 0 && len(walk.open) > 0 {
		order = walk.step()
	}
	return order
}

// ValMany is how many parts a tree has, with itself.
func ValMany(v Val) int {
	t, ok := treeOf(v)
	if !ok {
		return 0
	}
	return t.many()
}

// ValText writes a tree.
func ValText(v Val) string {
	t, ok := treeOf(v)
	if !ok {
		return ""
	}
	return t.text()
}

// ValRead reads a tree.
func ValRead(text string) (Val, bool) {
	if len(text) > valBytes {
		return Val{}, false
	}
	r := reader{room: room{ValSize}, runes: []rune(text)}
	t, ok := r.tree(1)
	if !ok || r.at < len(r.runes) {
		return Val{}, false
	}
	return t.val(), true
}

// tree is a tree that is ok, each kind a type of its own.
type tree interface {
	many() int
	text() string
	val() Val
}

type bareTree struct{ kind int }

type numTree struct{ n int }

type strTree struct{ s string }

type rowTree struct{ list []tree }

type mapTree struct{ parts map[string]tree }

func (t bareTree) many() int { return 1 }

func (t numTree) many() int { return 1 }

func (t strTree) many() int { return 1 }

func (t rowTree) many() int {
	n := 1
	for _, part := range t.list {
		n += part.many()
	}
	return n
}

func (t mapTree) many() int {
	n := 1
	for _, part := range t.parts {
		n += part.many()
	}
	return n
}

func (t bareTree) text() string { return bareWords[t.kind] }

func (t numTree) text() string { return strconv.Itoa(t.n) }

func (t strTree) text() string { return "'" + t.s + "'" }

func (t rowTree) text() string {
	var texts []string
	for _, part := range t.list {
		texts = append(texts, part.text())
	}
	return "[" + strings.Join(texts, ",") + "]"
}

func (t mapTree) text() string {
	var texts []string
	for _, key := range t.keys() {
		texts = append(texts, key+":"+t.parts[key].text())
	}
	return "{" + strings.Join(texts, ",") + "}"
}

func (t bareTree) val() Val { return Val{Kind: t.kind} }

func (t numTree) val() Val { return Val{Kind: ValNum, N: t.n} }

func (t strTree) val() Val { return Val{Kind: ValStr, S: t.s} }

func (t rowTree) val() Val {
	var list []Val
	for _, part := range t.list {
		list = append(list, part.val())
	}
	return Val{Kind: ValRow, List: list}
}

func (t mapTree) val() Val {
	keys := t.keys()
	var list []Val
	for _, key := range keys {
		list = append(list, t.parts[key].val())
	}
	return Val{Kind: ValMap, Keys: keys, List: list}
}

// keys is in order, as a map has none.
func (t mapTree) keys() []string {
	var keys []string
	for key := range t.parts {
		keys = append(keys, key)
	}
	slices.Sort(keys)
	return keys
}

// mapTreeOf is a tree by keys; there are as many of these as trees.
func mapTreeOf(keys []string, list []tree) tree {
	parts := map[string]tree{}
	for i, key := range keys {
		parts[key] = list[i]
	}
	return mapTree{parts}
}

// numOk says whether a number may be in a tree.
func numOk(n int) bool { return n >= -ValMost && n <= ValMost }

// textOk says whether a text may be in a tree, or be a key.
func textOk(s string) bool {
	if len(s) > ValLong {
		return false
	}
	for _, r := range s {
		if r < 'a' || r > 'z' {
			return false
		}
	}
	return true
}

// keysOk says whether keys may be those of a tree.
func keysOk(keys []string) bool {
	for i, key := range keys {
		if !textOk(key) || i > 0 && keys[i-1] >= key {
			return false
		}
	}
	return true
}

// bare says whether a tree has nothing but its kind.
func bare(v Val) bool {
	return v.N == 0 && v.S == "" && len(v.Keys) == 0 && len(v.List) == 0
}

// room is how many more parts there may be. It is looked at ahead of each part, so that a list that holds itself comes to an end.
type room struct{ left int }

// take takes the room of one part, deep being how many are around it, with itself.
func (r *room) take(deep int) bool {
	if r.left == 0 || deep > ValDeep {
		return false
	}
	r.left--
	return true
}

// treeOf is the tree that is ok of a value, if it is one.
func treeOf(v Val) (tree, bool) {
	r := room{ValSize}
	return r.tree(v, 1)
}

func (r *room) tree(v Val, deep int) (tree, bool) {
	if !r.take(deep) {
		return nil, false
	}
	switch v.Kind {
	case ValNone, ValNo, ValYes:
		return bareTree{v.Kind}, bare(v)
	case ValNum:
		return numTree{v.N}, numOk(v.N) && bare(Val{S: v.S, Keys: v.Keys, List: v.List})
	case ValStr:
		return strTree{v.S}, textOk(v.S) && bare(Val{N: v.N, Keys: v.Keys, List: v.List})
	case ValRow:
		list, ok := r.trees(v.List, deep+1)
		return rowTree{list}, ok && bare(Val{N: v.N, S: v.S, Keys: v.Keys})
	case ValMap:
		list, ok := r.trees(v.List, deep+1)
		if !ok || len(v.Keys) != len(list) || !keysOk(v.Keys) {
			return nil, false
		}
		return mapTreeOf(v.Keys, list), bare(Val{N: v.N, S: v.S})
	}
	return nil, false
}

func (r *room) trees(list []Val, deep int) ([]tree, bool) {
	var trees []tree
	for _, v := range list {
		t, ok := r.tree(v, deep)
		if !ok {
			return nil, false
		}
		trees = append(trees, t)
	}
	return trees, true
}

// reader reads a tree from runes, from the place at on.
type reader struct {
	room  room
	runes []rune
	at    int
}

func (r *reader) tree(deep int) (tree, bool) {
	switch {
	case !r.room.take(deep):
		return nil, false
	case r.skip('['):
		_, list, ok := r.parts(']', deep+1)
		return rowTree{list}, ok
	case r.skip('{'):
		keys, list, ok := r.parts('}', deep+1)
		if !ok || !keysOk(keys) {
			return nil, false
		}
		return mapTreeOf(keys, list), true
	case r.skip('\''):
		s := r.word()
		return strTree{s}, r.skip('\'') && textOk(s)
	}
	return leafOf(r.word())
}

// parts reads trees up to the rune that ends them, of which } asks for a key ahead of each.
func (r *reader) parts(end rune, deep int) ([]string, []tree, bool) {
	var keys []string
	var list []tree
	for !r.skip(end) {
		if len(list) > 0 && !r.skip(',') {
			return nil, nil, false
		}
		if end == '}' {
			keys = append(keys, r.word())
			if !r.skip(':') {
				return nil, nil, false
			}
		}
		t, ok := r.tree(deep)
		if !ok {
			return nil, nil, false
		}
		list = append(list, t)
	}
	return keys, list, true
}

// skip goes past a rune, if it is the next one.
func (r *reader) skip(c rune) bool {
	if r.at == len(r.runes) || r.runes[r.at] != c {
		return false
	}
	r.at++
	return true
}

// word goes past all runes of which keys, texts, numbers and words are made; it is up to the caller which of these it must be.
func (r *reader) word() string {
	from := r.at
scan:
	for r.at < len(r.runes) {
		switch c := r.runes[r.at]; {
		case c >= 'a' && c <= 'z', c >= '0' && c <= '9', c == '-':
			r.at++
		default:
			break scan
		}
	}
	return string(r.runes[from:r.at])
}

// leafOf is the tree without marks around it of which a word is the text.
func leafOf(word string) (tree, bool) {
	for kind, name := range bareWords {
		if word == name {
			return bareTree{kind}, true
		}
	}
	n, ok := numberOf(word)
	return numTree{n}, ok && numOk(n)
}

// numberOf is the number of which a word is the text.
func numberOf(word string) (int, bool) {
	n, err := strconv.Atoi(word)
	// Written again, a number with needless zeros is another text.
	return n, err == nil && strconv.Itoa(n) == word
}

// listPair is two lists, held against each other, by where they lie.
type listPair struct {
	a, b         *Val
	manyA, manyB int
}

// listWalk is two lists, and the place up to which they are the same.
type listWalk struct {
	a, b []Val
	at   int
}

// orderWalk goes through two trees side by side. They need not be ok: they may be deeper than calls can be, and hold themselves.
type orderWalk struct {
	open []listWalk
	met  int
	seen map[listPair]struct{}
}

// meet is the order of two parts but for their lists, which are gone through next.
func (w *orderWalk) meet(a Val, b Val) int {
	w.met++
	w.enter(a.List, b.List)
	return cmp.Or(cmp.Compare(a.Kind, b.Kind), cmp.Compare(a.N, b.N), cmp.Compare(a.S, b.S), slices.Compare(a.Keys, b.Keys))
}

func (w *orderWalk) enter(a []Val, b []Val) {
	// Trees that are ok have come to an end by then: only others need be known again.
	if w.met > ValSize && len(a) > 0 && len(b) > 0 {
		pair := listPair{&a[0], &b[0], len(a), len(b)}
		if _, ok := w.seen[pair]; ok {
			return
		}
		w.seen[pair] = struct{}{}
	}
	w.open = append(w.open, listWalk{a: a, b: b})
}

// step goes one place on in the two lists that were entered last.
func (w *orderWalk) step() int {
	last := &w.open[len(w.open)-1]
	a, b, at := last.a, last.b, last.at
	if at < len(a) && at < len(b) {
		last.at++
		return w.meet(a[at], b[at])
	}
	w.open = w.open[:len(w.open)-1]
	return cmp.Compare(len(a), len(b))
}
