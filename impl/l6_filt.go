package impl

import (
	"iter"
	"strconv"
	"strings"
)

// Filt is a filter.
type Filt struct {
	Kind int
	N    int
	S    string
	V    Val
	Kids []Filt
}

// Kinds of filters, and bounds.
const (
	FiltId   = 1
	FiltLit  = 2
	FiltKey  = 3
	FiltAt   = 4
	FiltEach = 5
	FiltPipe = 6
	FiltBoth = 7
	FiltIf   = 8
	FiltAdd  = 9
	FiltLess = 10
	FiltSame = 11
	FiltRow  = 12
	FiltLen  = 13
	FiltKeys = 14
	FiltNot  = 15
	FiltElse = 16
	FiltTry  = 17
	FiltNone = 18
	FiltBad  = 19
	FiltTurn = 20
	FiltMake = 21
	FiltSize = 16
	FiltDeep = 7
)

// filtBytes is how many bytes a text may have that is read as a filter.
const filtBytes = 6000

// filtShape is the word of a kind, empty where that is made with what the kind has, and how many kids it has.
type filtShape struct {
	word string
	kids int
}

// filtShapes are by kind, of which 0 is none.
var filtShapes = [FiltMake + 1]filtShape{
	FiltId:   {".", 0},
	FiltLit:  {"", 0},
	FiltKey:  {"", 0},
	FiltAt:   {"", 0},
	FiltEach: {"[]", 0},
	FiltPipe: {"pipe", 2},
	FiltBoth: {"both", 2},
	FiltIf:   {"if", 3},
	FiltAdd:  {"add", 2},
	FiltLess: {"less", 2},
	FiltSame: {"same", 2},
	FiltRow:  {"row", 1},
	FiltLen:  {"len", 0},
	FiltKeys: {"keys", 0},
	FiltNot:  {"not", 0},
	FiltElse: {"else", 2},
	FiltTry:  {"try", 1},
	FiltNone: {"none", 0},
	FiltBad:  {"bad", 0},
	FiltTurn: {"turn", 2},
	FiltMake: {"", 1},
}

// FiltOk says whether a filter is one.
func FiltOk(f Filt) bool {
	_, ok := filterOf(f)
	return ok
}

// FiltAlike says whether two filters are one.
func FiltAlike(a Filt, b Filt) bool {
	walk := alikeWalk{seen: map[kidsPair]struct{}{}}
	alike := walk.meet(a, b)
	for alike && len(walk.open) > 0 {
		alike = walk.step()
	}
	return alike
}

// FiltMany is how many parts a filter has, with itself.
func FiltMany(f Filt) int {
	whole, ok := filterOf(f)
	if !ok {
		return 0
	}
	return manyIn(whole)
}

// FiltText writes a filter.
func FiltText(f Filt) string {
	whole, ok := filterOf(f)
	if !ok {
		return ""
	}
	var words []string
	for part := range partsIn(whole) {
		words = append(words, part.word())
	}
	return strings.Join(words, " ")
}

// FiltRead reads a filter.
func FiltRead(text string) (Filt, bool) {
	if len(text) > filtBytes {
		return Filt{}, false
	}
	whole, ok := filterBy(func() filter { return mustBeWhole(mustRead(text)) })
	if !ok {
		return Filt{}, false
	}
	return whole.filt(), true
}

// filter is a filter that is ok, in memory of its own. Kinds that have things of the same sort are one type.
type filter interface {
	word() string
	kids() []filter
	onlyLooks() bool
	filt() Filt
	goOn(fuel *tank, v Val) ([]waiting, error)
	shorter() filter
	sure() bool
	tells() int
}

type bareFilter struct{ kind int }

type litFilter struct{ t tree }

type keyFilter struct{ key string }

type atFilter struct{ at int }

type joinFilter struct {
	kind int
	list []filter
}

type makeFilter struct {
	key string
	kid filter
}

func (f bareFilter) word() string { return filtShapes[f.kind].word }

func (f litFilter) word() string { return "=" + f.t.text() }

func (f keyFilter) word() string { return "." + f.key + ":" }

func (f atFilter) word() string { return "[" + strconv.Itoa(f.at) + "]" }

func (f joinFilter) word() string { return filtShapes[f.kind].word }

func (f makeFilter) word() string { return "make:" + f.key }

func (f bareFilter) kids() []filter { return nil }

func (f litFilter) kids() []filter { return nil }

func (f keyFilter) kids() []filter { return nil }

func (f atFilter) kids() []filter { return nil }

func (f joinFilter) kids() []filter { return f.list }

func (f makeFilter) kids() []filter { return []filter{f.kid} }

func (f bareFilter) onlyLooks() bool {
	return f.kind == FiltId || f.kind == FiltEach || f.kind == FiltNone
}

func (f litFilter) onlyLooks() bool { return false }

func (f keyFilter) onlyLooks() bool { return true }

func (f atFilter) onlyLooks() bool { return true }

// onlyLooks does not ask the first of a FiltIf: that chooses, and leads nowhere.
func (f joinFilter) onlyLooks() bool {
	switch f.kind {
	case FiltPipe, FiltBoth:
		return f.list[0].onlyLooks() && f.list[1].onlyLooks()
	case FiltIf:
		return f.list[1].onlyLooks() && f.list[2].onlyLooks()
	}
	return false
}

func (f makeFilter) onlyLooks() bool { return false }

func (f bareFilter) filt() Filt { return Filt{Kind: f.kind} }

func (f litFilter) filt() Filt { return Filt{Kind: FiltLit, V: f.t.val()} }

func (f keyFilter) filt() Filt { return Filt{Kind: FiltKey, S: f.key} }

func (f atFilter) filt() Filt { return Filt{Kind: FiltAt, N: f.at} }

func (f joinFilter) filt() Filt {
	var kids []Filt
	for _, kid := range f.list {
		kids = append(kids, kid.filt())
	}
	return Filt{Kind: f.kind, Kids: kids}
}

func (f makeFilter) filt() Filt {
	return Filt{Kind: FiltMake, S: f.key, Kids: []Filt{f.kid.filt()}}
}

// partsIn yields a filter, and then all parts of each kid, in order: so their words stand in its text.
func partsIn(f filter) iter.Seq[filter] {
	return func(yield func(filter) bool) {
		if !yield(f) {
			return
		}
		for _, kid := range f.kids() {
			for part := range partsIn(kid) {
				if !yield(part) {
					return
				}
			}
		}
	}
}

// manyIn is how many parts a filter has, with itself.
func manyIn(f filter) int {
	n := 0
	for range partsIn(f) {
		n++
	}
	return n
}

// noFilter is why something is no filter. Whatever finds that out panics with it, and filterBy recovers.
type noFilter struct{ why string }

// must panics, if something is not as it must be in a filter.
func must(so bool, why string) {
	if !so {
		panic(noFilter{why})
	}
}

// filterBy is the filter that is built, and whether there is one.
func filterBy(build func() filter) (f filter, ok bool) {
	defer func() {
		if recover() != nil {
			f, ok = nil, false
		}
	}()
	return build(), true
}

// filterOf is the filter that is ok of a value, if it is one.
func filterOf(f Filt) (filter, bool) {
	return filterBy(func() filter { return mustBeWhole(f) })
}

// mustBeWhole is the filter of a value that is no part of another one.
func mustBeWhole(f Filt) filter {
	whole := mustBePart(f, 1)
	must(manyIn(whole) <= FiltSize, "too many parts")
	return whole
}

// mustBePart is the filter of a value, deep being how many are around it, with itself. Kids are counted, and how deep they are, ahead of going on, so that a list that holds itself comes to an end.
func mustBePart(f Filt, deep int) filter {
	must(deep <= FiltDeep, "too deep")
	must(f.Kind >= FiltId && f.Kind <= FiltMake, "no such kind")
	must(len(f.Kids) == filtShapes[f.Kind].kids, "too many kids, or too few")
	if len(f.Kids) == 0 {
		return mustBeLeaf(f)
	}
	var kids []filter
	for _, kid := range f.Kids {
		kids = append(kids, mustBePart(kid, deep+1))
	}
	return mustBeJoin(f, kids)
}

// mustBeLeaf is the filter of a value of a kind without kids.
func mustBeLeaf(f Filt) filter {
	switch f.Kind {
	case FiltLit:
		t, ok := treeOf(f.V)
		must(ok, "no tree")
		mustHaveNothing(Filt{N: f.N, S: f.S})
		return litFilter{t}
	case FiltKey:
		must(textOk(f.S), "no key")
		mustHaveNothing(Filt{N: f.N, V: f.V})
		return keyFilter{f.S}
	case FiltAt:
		must(placeOk(f.N), "no place")
		mustHaveNothing(Filt{S: f.S, V: f.V})
		return atFilter{f.N}
	}
	mustHaveNothing(f)
	return bareFilter{f.Kind}
}

// mustBeJoin is the filter of a value of a kind with kids, of which there are as many as it has.
func mustBeJoin(f Filt, kids []filter) filter {
	if f.Kind == FiltMake {
		must(textOk(f.S), "no key")
		mustHaveNothing(Filt{N: f.N, V: f.V})
		return makeFilter{f.S, kids[0]}
	}
	must(f.Kind != FiltTurn || kids[0].onlyLooks(), "it turns where nothing only looks")
	mustHaveNothing(f)
	return joinFilter{f.Kind, kids}
}

// mustHaveNothing asks that a filter has nothing beside its kind and its kids.
func mustHaveNothing(f Filt) {
	must(f.N == 0 && f.S == "" && f.V.Kind == ValNone && bare(f.V), "it has what its kind has not")
}

// mustRead is the value of which this is the text; it is up to the caller whether it is a filter.
func mustRead(text string) Filt {
	words := strings.Split(text, " ")
	// Each part is a word: more of them are none, and need not be read so deep.
	must(len(words) <= FiltSize, "too many words")
	f, behind := filtOfWords(words)
	must(len(behind) == 0, "words behind the end")
	return f
}

// filtOfWords is the value that starts at the first of the words, and the words behind it.
func filtOfWords(words []string) (Filt, []string) {
	must(len(words) > 0, "a kid is not there")
	f, behind := filtOfWord(words[0]), words[1:]
	for range filtShapes[f.Kind].kids {
		kid, further := filtOfWords(behind)
		f.Kids, behind = append(f.Kids, kid), further
	}
	return f, behind
}

// filtOfWord is the value of a word, without its kids.
func filtOfWord(word string) Filt {
	if text, ok := strings.CutPrefix(word, "="); ok {
		v, ok := ValRead(text)
		must(ok, "no tree")
		return Filt{Kind: FiltLit, V: v}
	}
	if key, ok := strings.CutPrefix(word, "make:"); ok {
		return Filt{Kind: FiltMake, S: key}
	}
	if key, ok := between(word, ".", ":"); ok {
		return Filt{Kind: FiltKey, S: key}
	}
	// Nothing between them is the word of FiltEach.
	if place, ok := between(word, "[", "]"); ok && place != "" {
		at, ok := numberOf(place)
		must(ok, "no number")
		return Filt{Kind: FiltAt, N: at}
	}
	return Filt{Kind: kindOfWord(word)}
}

// between is what is between a start and an end, and whether a text has both.
func between(text string, start string, end string) (string, bool) {
	inner, ok := strings.CutPrefix(text, start)
	if !ok {
		return "", false
	}
	return strings.CutSuffix(inner, end)
}

// kindOfWord is the kind that has just this word.
func kindOfWord(word string) int {
	must(word != "", "no word")
	for kind, shape := range filtShapes {
		if shape.word == word {
			return kind
		}
	}
	panic(noFilter{"no such word"})
}

// kidsPair is the kids of two filters, as many of each, by where they lie.
type kidsPair struct {
	a, b *Filt
	many int
}

// kidsWalk is the kids of two filters, as many of each, that are still to be held against each other.
type kidsWalk struct{ a, b []Filt }

// alikeWalk goes through two filters side by side. They need not be ok: they may be deeper than calls can be, and hold themselves.
type alikeWalk struct {
	open []kidsWalk
	met  int
	seen map[kidsPair]struct{}
}

// meet says whether two parts are alike but for their kids, which are gone through later.
func (w *alikeWalk) meet(a Filt, b Filt) bool {
	w.met++
	if a.Kind != b.Kind || a.N != b.N || a.S != b.S || len(a.Kids) != len(b.Kids) || !ValSame(a.V, b.V) {
		return false
	}
	if len(a.Kids) > 0 && w.isNew(a.Kids, b.Kids) {
		w.open = append(w.open, kidsWalk{a.Kids, b.Kids})
	}
	return true
}

// isNew says whether these kids were not met as a pair, as far as that is kept.
func (w *alikeWalk) isNew(a []Filt, b []Filt) bool {
	// Filters that are ok have come to an end by then: only others need be known again.
	if w.met <= FiltSize {
		return true
	}
	pair := kidsPair{&a[0], &b[0], len(a)}
	_, seen := w.seen[pair]
	w.seen[pair] = struct{}{}
	return !seen
}

// step goes through the kids that were met last.
func (w *alikeWalk) step() bool {
	last := w.open[len(w.open)-1]
	w.open = w.open[:len(w.open)-1]
	for i := range last.a {
		if !w.meet(last.a[i], last.b[i]) {
			return false
		}
	}
	return true
}
