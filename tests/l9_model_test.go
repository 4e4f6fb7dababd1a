package tests

import (
	"slices"

	"loop.example/cribble/impl"
)

// wordModel says whether a text may be in a tree, without the program.
func wordModel(s string) bool {
	for i := range len(s) {
		if s[i] < 'a' || s[i] > 'z' {
			return false
		}
	}
	return len(s) <= 12
}

func nameModel(name string) bool { return wordModel(name) && name != "" }

// hasModel says whether a tree has nothing that its kind has not, and that as it must be; its parts are not looked at.
func hasModel(v impl.Val) bool {
	if v.Kind < 0 || v.Kind > 6 || v.N != 0 && v.Kind != 3 || v.S != "" && v.Kind != 4 || len(v.Keys) > 0 && v.Kind != 6 || len(v.List) > 0 && v.Kind < 5 {
		return false
	}
	if v.Kind == 6 && len(v.Keys) != len(v.List) {
		return false
	}
	for i, key := range v.Keys {
		if !wordModel(key) || i > 0 && key <= v.Keys[i-1] {
			return false
		}
	}
	return v.N >= -1000000 && v.N <= 1000000 && wordModel(v.S)
}

// treeModel says whether a tree is ok, without the program; deep is how many parts may be around one another.
func treeModel(v impl.Val, deep int) bool {
	if deep == 0 || !hasModel(v) || len(v.List) > 59 {
		return false
	}
	for _, part := range v.List {
		if !treeModel(part, deep-1) {
			return false
		}
	}
	return many(v) <= 60
}

// usedModel is how many parts trees have together.
func usedModel(trees []impl.Kept) int {
	n := 0
	for _, kept := range trees {
		n += many(kept.V)
	}
	return n
}

func askerModel(a impl.Asker) bool {
	for i, kept := range a.Trees {
		if !nameModel(kept.Name) || !treeModel(kept.V, 6) {
			return false
		}
		for _, other := range a.Trees[:i] {
			if other.Name == kept.Name {
				return false
			}
		}
	}
	bounds := a.Most >= 0 && a.Most <= 150 && a.Fuel >= 0 && a.Fuel <= 5000 && len(a.Trees) <= 4
	return bounds && nameModel(a.Name) && usedModel(a.Trees) <= a.Most
}

// shelfModel says whether a shelf is ok, without the program.
func shelfModel(s impl.Shelf) bool {
	for i, a := range s.Askers {
		if !askerModel(a) {
			return false
		}
		for _, other := range s.Askers[:i] {
			if other.Name == a.Name {
				return false
			}
		}
	}
	return len(s.Askers) <= 4
}

// shelfCall is a call of one of the functions that are asked by names; noFilt, if its filter is not ok.
type shelfCall struct {
	do         string
	who, name  string
	most, fuel int
	v          impl.Val
	f          impl.Filt
	noFilt     bool
}

// shelfTold is all that a call answers: for get and used the shelf is the one that was given, and for used the code is how many parts there are.
type shelfTold struct {
	s    impl.Shelf
	list []impl.Val
	code int
}

// told is what the program answers.
func (c shelfCall) told(s impl.Shelf) shelfTold {
	told := shelfTold{s: s}
	switch c.do {
	case "join":
		told.s, told.code = impl.ShelfJoin(s, c.who, c.most, c.fuel)
	case "put":
		told.s, told.code = impl.ShelfPut(s, c.who, c.name, c.v)
	case "get":
		var v impl.Val
		v, told.code = impl.ShelfGet(s, c.who, c.name)
		told.list = []impl.Val{v}
	case "drop":
		told.s, told.code = impl.ShelfDrop(s, c.who, c.name)
	case "ask":
		told.s, told.list, told.code = impl.ShelfAsk(s, c.who, c.name, c.f)
	case "turn":
		told.s, told.code = impl.ShelfTurn(s, c.who, c.name, c.f)
	default:
		told.code = impl.ShelfUsed(s, c.who)
	}
	return told
}

// model is what must be answered of a shelf that is ok, without the program: all are looked for one behind the other.
func (c shelfCall) model(given impl.Shelf) shelfTold {
	s := cloneShelf(given)
	told := shelfTold{s: s}
	if c.do == "get" {
		told.list = []impl.Val{{}}
	}
	if c.do == "join" {
		told.s, told.code = c.joinModel(s)
		return told
	}
	who := slices.IndexFunc(s.Askers, func(a impl.Asker) bool { return a.Name == c.who })
	if who < 0 {
		told.code = 1
		if c.do == "used" {
			told.code = -1
		}
		return told
	}
	told.list, told.code = c.withAsker(&s.Askers[who], told.list)
	return told
}

func (c shelfCall) joinModel(s impl.Shelf) (impl.Shelf, int) {
	if !nameModel(c.who) || c.most < 0 || c.most > 150 || c.fuel < 0 || c.fuel > 5000 {
		return s, 3
	}
	for _, a := range s.Askers {
		if a.Name == c.who {
			return s, 2
		}
	}
	if len(s.Askers) >= 4 {
		return s, 2
	}
	s.Askers = append(s.Askers, impl.Asker{Name: c.who, Most: c.most, Fuel: c.fuel})
	return s, 0
}

// withAsker does all but join with an asker who is there; nothing is what is told where nothing is.
func (c shelfCall) withAsker(a *impl.Asker, nothing []impl.Val) ([]impl.Val, int) {
	at := slices.IndexFunc(a.Trees, func(kept impl.Kept) bool { return kept.Name == c.name })
	switch c.do {
	case "used":
		return nil, usedModel(a.Trees)
	case "put":
		if !nameModel(c.name) || !treeModel(c.v, 6) {
			return nil, 3
		}
		return nil, keepModel(a, at, c.name, c.v)
	}
	if at < 0 {
		return nothing, 1
	}
	switch c.do {
	case "get":
		return []impl.Val{a.Trees[at].V}, 0
	case "drop":
		a.Trees = slices.Concat(a.Trees[:at], a.Trees[at+1:])
		return nil, 0
	}
	if c.noFilt {
		return nil, 3
	}
	m := runModel{fuel: min(a.Fuel, 400)}
	list, code, left := m.runOf(c.f, a.Trees[at].V)
	a.Fuel = max(a.Fuel-400, 0) + left
	code = [...]int{0, 3, 4}[code]
	if c.do == "ask" {
		return list, code
	}
	if code == 0 && len(list) != 1 {
		code = 3
	}
	if code == 0 {
		code = keepModel(a, at, c.name, list[0])
	}
	return nil, code
}

// keepModel keeps a tree at a place, below 0 behind all, if that is not too much, and tells the code.
func keepModel(a *impl.Asker, at int, name string, v impl.Val) int {
	trees := slices.Clone(a.Trees)
	if at < 0 {
		at = len(trees)
		trees = append(trees, impl.Kept{})
	}
	trees[at] = impl.Kept{Name: name, V: v}
	if len(trees) > 4 || usedModel(trees) > a.Most {
		return 2
	}
	a.Trees = trees
	return 0
}

func equalKept(a, b impl.Kept) bool { return a.Name == b.Name && equal(a.V, b.V) }

func equalAsker(a, b impl.Asker) bool {
	return a.Name == b.Name && a.Most == b.Most && a.Fuel == b.Fuel && slices.EqualFunc(a.Trees, b.Trees, equalKept)
}

// equalShelf compares two shelves field by field, without the program.
func equalShelf(a, b impl.Shelf) bool { return slices.EqualFunc(a.Askers, b.Askers, equalAsker) }

func equalShelfTold(a, b shelfTold) bool {
	return equalShelf(a.s, b.s) && equalTrees(a.list, b.list) && a.code == b.code
}

// cloneShelf is a shelf in memory of its own.
func cloneShelf(s impl.Shelf) impl.Shelf {
	s.Askers = slices.Clone(s.Askers)
	for i, a := range s.Askers {
		trees := slices.Clone(a.Trees)
		for j := range trees {
			trees[j].V = clone(trees[j].V)
		}
		s.Askers[i].Trees = trees
	}
	return s
}
