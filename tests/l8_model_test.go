package tests

import (
	"slices"

	"loop.example/cribble/impl"
)

// slimModel makes filters shorter as the document says, without the program; seen is how often each rule was taken, by the kind it is of and which of that kind's it is.
type slimModel struct{ seen map[[2]int]int }

// of is what becomes of a filter that is ok.
func (m slimModel) of(f impl.Filt) impl.Filt {
	short := f
	short.Kids = nil
	for _, kid := range f.Kids {
		short.Kids = append(short.Kids, m.of(kid))
	}
	if f.Kind == impl.FiltTurn && !looksModel(short.Kids[0]) {
		short.Kids[0] = f.Kids[0]
		m.seen[[2]int{f.Kind, 1}]++
	}
	other, taken := m.ruled(short)
	if taken > 0 {
		m.seen[[2]int{f.Kind, taken}]++
	}
	return other
}

// ruled is what a filter with short kids becomes, and which of the rules of its kind is taken, from 1 on; 0, if none is.
func (m slimModel) ruled(f impl.Filt) (impl.Filt, int) {
	is := func(at int, kinds ...int) bool { return slices.Contains(kinds, f.Kids[at].Kind) }
	switch f.Kind {
	case impl.FiltPipe:
		if is(0, impl.FiltId) {
			return f.Kids[1], 1
		}
		if is(1, impl.FiltId) {
			return f.Kids[0], 2
		}
		if is(0, impl.FiltNone, impl.FiltBad) {
			return f.Kids[0], 3
		}
	case impl.FiltBoth:
		if is(0, impl.FiltNone) {
			return f.Kids[1], 1
		}
		if is(1, impl.FiltNone) {
			return f.Kids[0], 2
		}
		if is(0, impl.FiltBad) {
			return f.Kids[0], 3
		}
	case impl.FiltIf:
		if is(0, impl.FiltNone, impl.FiltBad) {
			return f.Kids[0], 1
		}
		if is(0, impl.FiltLit) && onModel(f.Kids[0].V) {
			return f.Kids[1], 2
		}
		if is(0, impl.FiltLit) {
			return f.Kids[2], 3
		}
	case impl.FiltAdd, impl.FiltLess, impl.FiltSame:
		if is(0, impl.FiltLit) && is(1, impl.FiltLit) {
			return pairModel(f.Kind, f.Kids[0].V, f.Kids[1].V)
		}
	case impl.FiltTry:
		if sureModel(f.Kids[0]) {
			return f.Kids[0], 1
		}
	case impl.FiltElse:
		if is(0, impl.FiltNone, impl.FiltBad) {
			return f.Kids[1], 1
		}
	}
	return f, 0
}

// pairModel is what becomes of a filter of two trees: 1, if that can be told, else 2.
func pairModel(kind int, a, b impl.Val) (impl.Filt, int) {
	switch kind {
	case impl.FiltLess:
		return lit(yes(orderModel(a, b) < 0)), 1
	case impl.FiltSame:
		return lit(yes(equal(a, b))), 1
	}
	sum, can := addModel(a, b)
	if !can || !fits(sum) {
		return filtOf(impl.FiltBad), 2
	}
	return lit(sum), 1
}

// sureKids is which kids of a filter must be sure, so that it is; of a kind that is not here none ever is.
func sureKids(kind int) ([]int, bool) {
	switch kind {
	case impl.FiltId, impl.FiltLit, impl.FiltNone, impl.FiltNot, impl.FiltTry:
		return nil, true
	case impl.FiltBoth, impl.FiltPipe, impl.FiltLess, impl.FiltSame:
		return []int{0, 1}, true
	case impl.FiltElse:
		return []int{1}, true
	case impl.FiltIf:
		return []int{0, 1, 2}, true
	}
	return nil, false
}

func sureModel(f impl.Filt) bool {
	asked, can := sureKids(f.Kind)
	return can && !slices.ContainsFunc(asked, func(at int) bool { return !sureModel(f.Kids[at]) })
}

// namesModel is all keys in a filter, found one after the other: the least that is behind the last one.
func namesModel(f impl.Filt) []string {
	var keys []string
	for {
		least, any := "", false
		inFilt(f, func(part impl.Filt) {
			named := part.Kind == impl.FiltKey || part.Kind == impl.FiltMake
			if named && (len(keys) == 0 || part.S > keys[len(keys)-1]) && (!any || part.S < least) {
				least, any = part.S, true
			}
		})
		if !any {
			return keys
		}
		keys = append(keys, least)
	}
}

func tellModel(f impl.Filt) int {
	switch f.Kind {
	case impl.FiltEach:
		return -1
	case impl.FiltNone, impl.FiltBad:
		return 0
	case impl.FiltRow, impl.FiltTurn:
		return 1
	}
	var kids []int
	for _, kid := range f.Kids {
		n := tellModel(kid)
		if n == -1 {
			return -1
		}
		kids = append(kids, n)
	}
	switch f.Kind {
	case impl.FiltTry, impl.FiltMake:
		return kids[0]
	case impl.FiltPipe, impl.FiltAdd, impl.FiltLess, impl.FiltSame:
		return kids[0] * kids[1]
	case impl.FiltBoth:
		return kids[0] + kids[1]
	case impl.FiltIf:
		return kids[0] * max(kids[1], kids[2])
	case impl.FiltElse:
		return max(kids[0], kids[1])
	}
	return 1
}
