package tests

import (
	"slices"

	"loop.example/cribble/impl"
)

// runModel tells filters as the document's table says, without the program: what waits is what is called on, not a list of tasks. seen is how often each kind was done, by how that ended.
type runModel struct {
	fuel int
	seen map[[2]int]int
}

// spotModel is a way and the tree at its end.
type spotModel struct {
	way []impl.Step
	v   impl.Val
}

// tell calls each with all that is told of a task, and tells the code; what is called ends it by another one than RunFine.
func (m *runModel) tell(todo []impl.Filt, v impl.Val, each func(impl.Val) int) int {
	if len(todo) == 0 {
		return each(v)
	}
	if m.fuel == 0 {
		return impl.RunLong
	}
	m.fuel--
	on, code := m.goesOn(todo[0], v)
	if m.seen != nil {
		m.seen[[2]int{todo[0].Kind, code}]++
	}
	for i := 0; i < len(on) && code == impl.RunFine; i++ {
		code = m.tell(slices.Concat(on[i].Todo, todo[1:]), on[i].V, each)
	}
	return code
}

// all is all that a part tells, and the code with which it ended.
func (m *runModel) all(f impl.Filt, v impl.Val) ([]impl.Val, int) {
	var list []impl.Val
	code := m.tell([]impl.Filt{f}, v, func(x impl.Val) int {
		if len(list) == 40 {
			m.fuel = 0
			return impl.RunLong
		}
		list = append(list, x)
		return impl.RunFine
	})
	return list, code
}

// alone is tasks for which nothing waits.
func alone(list ...impl.Val) []impl.Task {
	var tasks []impl.Task
	for _, v := range list {
		tasks = append(tasks, impl.Task{V: v})
	}
	return tasks
}

// aloneIf is the task of a tree, if that can be told.
func aloneIf(v impl.Val, can bool) ([]impl.Task, int) {
	if !can || !fits(v) {
		return nil, impl.RunBad
	}
	return alone(v), impl.RunFine
}

func yes(so bool) impl.Val {
	if so {
		return impl.Val{Kind: impl.ValYes}
	}
	return impl.Val{Kind: impl.ValNo}
}

func onModel(v impl.Val) bool { return v.Kind >= impl.ValYes }

// lenModel is how long a tree is, and whether that can be asked.
func lenModel(v impl.Val) (impl.Val, bool) {
	switch v.Kind {
	case impl.ValNum:
		return num(max(v.N, -v.N)), true
	case impl.ValStr:
		return num(len(v.S)), true
	}
	return num(len(v.List)), v.Kind == impl.ValNone || v.Kind >= impl.ValRow
}

// keyRowModel is the row of keys, or of places.
func keyRowModel(v impl.Val) (impl.Val, bool) {
	list := row()
	for at := range v.List {
		if v.Kind == impl.ValMap {
			list.List = append(list.List, str(v.Keys[at]))
		} else {
			list.List = append(list.List, num(at))
		}
	}
	return list, v.Kind >= impl.ValRow
}

// goesOn is the tasks with which a filter goes on, with the filters that wait ahead of the others, and the code with which it ends.
func (m *runModel) goesOn(f impl.Filt, v impl.Val) ([]impl.Task, int) {
	switch f.Kind {
	case impl.FiltId:
		return alone(v), impl.RunFine
	case impl.FiltLit:
		return alone(f.V), impl.RunFine
	case impl.FiltKey:
		return aloneIf(getAlong(v, steps(f.S)))
	case impl.FiltAt:
		return aloneIf(getAlong(v, steps(f.N)))
	case impl.FiltLen:
		return aloneIf(lenModel(v))
	case impl.FiltKeys:
		return aloneIf(keyRowModel(v))
	case impl.FiltNot:
		return alone(yes(!onModel(v))), impl.RunFine
	case impl.FiltNone:
		return nil, impl.RunFine
	case impl.FiltBad:
		return nil, impl.RunBad
	case impl.FiltEach:
		if v.Kind < impl.ValRow {
			return nil, impl.RunBad
		}
		return alone(v.List...), impl.RunFine
	case impl.FiltPipe:
		return []impl.Task{{V: v, Todo: f.Kids}}, impl.RunFine
	case impl.FiltBoth:
		return []impl.Task{{V: v, Todo: f.Kids[:1]}, {V: v, Todo: f.Kids[1:]}}, impl.RunFine
	case impl.FiltAdd, impl.FiltLess, impl.FiltSame:
		return m.pairs(f, v)
	case impl.FiltTurn:
		return m.turned(f, v)
	}
	return m.goesOnOfOne(f, v)
}

// goesOnOfOne is goesOn of the kinds that ask for all that one kid tells.
func (m *runModel) goesOnOfOne(f impl.Filt, v impl.Val) ([]impl.Task, int) {
	list, code := m.all(f.Kids[0], v)
	if code == impl.RunBad && (f.Kind == impl.FiltTry || f.Kind == impl.FiltElse) {
		code = impl.RunFine
	}
	if code != impl.RunFine {
		return nil, code
	}
	var on []impl.Task
	switch f.Kind {
	case impl.FiltIf:
		for _, x := range list {
			kid := 2
			if onModel(x) {
				kid = 1
			}
			on = append(on, impl.Task{V: v, Todo: f.Kids[kid : kid+1]})
		}
	case impl.FiltRow:
		return aloneIf(row(list...), true)
	case impl.FiltTry:
		return alone(list...), impl.RunFine
	case impl.FiltElse:
		for _, x := range list {
			if onModel(x) {
				on = append(on, impl.Task{V: x})
			}
		}
		if len(on) == 0 {
			on = []impl.Task{{V: v, Todo: f.Kids[1:]}}
		}
	case impl.FiltMake:
		for _, x := range list {
			if made := keyed([]string{f.S}, x); fits(made) {
				on = append(on, impl.Task{V: made})
			} else {
				code = impl.RunBad
			}
		}
	}
	return on, code
}

// pairs is goesOn of the three of two kids.
func (m *runModel) pairs(f impl.Filt, v impl.Val) ([]impl.Task, int) {
	first, code := m.all(f.Kids[0], v)
	if code != impl.RunFine {
		return nil, code
	}
	second, code := m.all(f.Kids[1], v)
	if code != impl.RunFine {
		return nil, code
	}
	var on []impl.Task
	for _, a := range first {
		for _, b := range second {
			switch f.Kind {
			case impl.FiltLess:
				on = append(on, impl.Task{V: yes(orderModel(a, b) < 0)})
			case impl.FiltSame:
				on = append(on, impl.Task{V: yes(equal(a, b))})
			default:
				sum, can := addModel(a, b)
				if !can || !fits(sum) {
					return nil, impl.RunBad
				}
				on = append(on, impl.Task{V: sum})
			}
		}
	}
	if len(on) > 40 {
		m.fuel = 0
		return nil, impl.RunLong
	}
	return on, impl.RunFine
}

// turned is goesOn of a FiltTurn.
func (m *runModel) turned(f impl.Filt, v impl.Val) ([]impl.Task, int) {
	spots, code := m.looks(f.Kids[0], spotModel{v: v})
	for _, s := range spots {
		if code != impl.RunFine {
			break
		}
		was, can := getAlong(v, s.way)
		if !can || len(s.way) > 6 {
			return nil, impl.RunBad
		}
		var list []impl.Val
		list, code = m.all(f.Kids[1], was)
		if code == impl.RunFine && len(list) != 1 {
			code = impl.RunBad
		}
		if code != impl.RunFine {
			break
		}
		v, can = putAlong(v, s.way, list[0])
		if !can || !fits(v) {
			return nil, impl.RunBad
		}
	}
	return alone(v), code
}

// looks is where a filter that only looks looks.
func (m *runModel) looks(f impl.Filt, from spotModel) ([]spotModel, int) {
	if m.fuel == 0 {
		return nil, impl.RunLong
	}
	m.fuel--
	kids, spots := f.Kids, []spotModel{from}
	switch f.Kind {
	case impl.FiltId:
		return spots, impl.RunFine
	case impl.FiltNone:
		return nil, impl.RunFine
	case impl.FiltKey:
		return from.lookTo(steps(f.S))
	case impl.FiltAt:
		return from.lookTo(steps(f.N))
	case impl.FiltEach:
		return from.lookToEach()
	case impl.FiltPipe:
		var code int
		spots, code = m.looks(kids[0], from)
		if code != impl.RunFine {
			return nil, code
		}
		kids = kids[1:]
	case impl.FiltIf:
		list, code := m.all(kids[0], from.v)
		if code != impl.RunFine {
			return nil, code
		}
		kids = nil
		for _, x := range list {
			if onModel(x) {
				kids = append(kids, f.Kids[1])
			} else {
				kids = append(kids, f.Kids[2])
			}
		}
	}
	var all []spotModel
	for _, s := range spots {
		for _, kid := range kids {
			found, code := m.looks(kid, s)
			if code != impl.RunFine {
				return nil, code
			}
			all = append(all, found...)
		}
	}
	return all, impl.RunFine
}

// lookTo is the spot a step further.
func (s spotModel) lookTo(step []impl.Step) ([]spotModel, int) {
	v, can := getAlong(s.v, step)
	if !can {
		return nil, impl.RunBad
	}
	return []spotModel{{slices.Concat(s.way, step), v}}, impl.RunFine
}

// lookToEach is the spots of all parts.
func (s spotModel) lookToEach() ([]spotModel, int) {
	if s.v.Kind < impl.ValRow {
		return nil, impl.RunBad
	}
	var all []spotModel
	for at, part := range s.v.List {
		step := steps(at)
		if s.v.Kind == impl.ValMap {
			step = steps(s.v.Keys[at])
		}
		all = append(all, spotModel{slices.Concat(s.way, step), part})
	}
	return all, impl.RunFine
}

// runOf is what Run must tell of a filter and a tree that are ok.
func (m *runModel) runOf(f impl.Filt, v impl.Val) ([]impl.Val, int, int) {
	list, code := m.all(f, v)
	return list, code, m.fuel
}

// nextModel is what GenNext must tell of a Gen that is ok.
func nextModel(g impl.Gen) (impl.Gen, impl.Val, bool) {
	m, tasks := runModel{fuel: g.Fuel}, slices.Clone(g.Tasks)
	for len(tasks) > 0 {
		last := tasks[len(tasks)-1]
		tasks = tasks[:len(tasks)-1]
		if len(last.Todo) == 0 {
			return impl.Gen{Tasks: tasks, Fuel: m.fuel}, last.V, true
		}
		if m.fuel == 0 {
			return impl.Gen{Code: impl.RunLong}, impl.Val{}, false
		}
		m.fuel--
		on, code := m.goesOn(last.Todo[0], last.V)
		if code != impl.RunFine {
			return impl.Gen{Fuel: m.fuel, Code: code}, impl.Val{}, false
		}
		for i := len(on) - 1; i >= 0; i-- {
			tasks = append(tasks, impl.Task{V: on[i].V, Todo: slices.Concat(on[i].Todo, last.Todo[1:])})
		}
	}
	return impl.Gen{Fuel: m.fuel, Code: g.Code}, impl.Val{}, false
}
