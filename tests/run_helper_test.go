package tests

import (
	"math/big"
	"slices"

	"loop.example/causey/impl"
)

// event is a step that a run came to: its place, and what it let out.
type event struct {
	place int
	outs  []int
}

// opByBig is RunOp by numbers without a bound.
func opByBig(op, a, b int) int {
	if a < 0 || a > 65535 || b < 0 || b > 65535 {
		return 0
	}
	x, y, z := big.NewInt(int64(a)), big.NewInt(int64(b)), new(big.Int)
	switch op {
	case 1:
		z.Add(x, y)
	case 2:
		z.Sub(x, y)
	case 3:
		z.Mul(x, y)
	case 4:
		if x.Cmp(y) < 0 {
			z.SetInt64(1)
		}
	}
	return int(z.Mod(z, big.NewInt(65536)).Int64())
}

// opByWrap is RunOp of numbers of 16 bits, which go round by themselves.
func opByWrap(op int, a, b uint16) uint16 {
	switch {
	case op == 1:
		return a + b
	case op == 2:
		return a - b
	case op == 3:
		return a * b
	case a < b:
		return 1
	}
	return 0
}

// story is all that happens with that input, as far as 600 steps, and how it ends.
func story(p impl.Prog, in []int) ([]event, int) {
	return watched(p, in, func(place int, value func(o impl.Opnd) uint16) {})
}

// watched is a story of which each step is looked at ahead of being done: its place, and what operands are. It goes from node to node, and knows no other bound.
func watched(p impl.Prog, in []int, look func(place int, value func(o impl.Opnd) uint16)) ([]event, int) {
	nodes := nodesOf(p)
	vars := map[int]uint16{}
	value := func(o impl.Opnd) uint16 {
		if o.Var < 0 {
			return uint16(o.Num)
		}
		return vars[o.Var]
	}
	var events []event
	taken := 0
	for n := nodes[0]; len(events) < 600; {
		s := n.step
		now := event{place: slices.Index(nodes, n)}
		look(now.place, value)
		if s.Kind == impl.StepOut {
			now.outs = []int{int(value(s.A))}
		}
		events = append(events, now)
		way := 0
		switch s.Kind {
		case impl.StepEnd:
			return events, 0
		case impl.StepIn:
			if taken == len(in) {
				return events, 2
			}
			vars[s.Dst] = uint16(in[taken])
			taken++
		case impl.StepSet:
			vars[s.Dst] = opByWrap(s.Op, value(s.A), value(s.B))
		case impl.StepCopy:
			vars[s.Dst] = value(s.A)
		case impl.StepTest:
			if value(s.A) == 0 {
				way = 1
			}
		}
		n = n.next[way]
	}
	return events, 1
}

// cut is what comes of a story that is broken off behind so many steps.
func cut(events []event, code, most int) impl.Result {
	if most < len(events) {
		events, code = events[:most], 1
	}
	r := impl.Result{Code: code}
	for _, e := range events {
		r.Path = append(r.Path, e.place)
		r.Outs = append(r.Outs, e.outs...)
	}
	return r
}

func runByStory(p impl.Prog, in []int, most int) impl.Result {
	events, code := story(p, in)
	return cut(events, code, most)
}

func sameResult(r, s impl.Result) bool {
	return r.Code == s.Code && slices.Equal(r.Outs, s.Outs) && slices.Equal(r.Path, s.Path)
}

// begins says whether a list is the other one as far as it goes.
func begins(list, whole []int) bool {
	return len(list) <= len(whole) && slices.Equal(list, whole[:len(list)])
}

// countKind is how many steps of a path are of that Kind.
func countKind(p impl.Prog, path []int, kind int) int {
	count := 0
	for _, at := range path {
		if p.Steps[at].Kind == kind {
			count++
		}
	}
	return count
}

// few is an operand of few variables and mostly small numbers, so that what is let out hangs on what was done.
func (d *dice) few() impl.Opnd {
	switch d.roll(6) {
	case 0:
		return num(d.roll(4))
	case 1:
		return num([]int{65535, 65534, 256, 32768}[d.roll(4)])
	}
	return variable(d.roll(4))
}

// runner is a program of so many steps that goes round, and takes in, lets out and ends now and then.
func (d *dice) runner(size int) impl.Prog {
	kinds := []int{1, 1, 1, 1, 1, 2, 3, 4, 4, 5, 5, 5, 6}
	if d.roll(2) == 0 {
		kinds = append(kinds, 3, 7)
	}
	var p impl.Prog
	for i := range size {
		s := d.step(kinds[d.roll(len(kinds))], size)
		h, _ := shapeOf(s.Kind)
		if h.dst {
			s.Dst = d.roll(4)
		}
		if h.a {
			s.A = d.few()
		}
		if h.b {
			s.B = d.few()
		}
		for k := range s.Next {
			s.Next[k] = (i + 1) % size
		}
		if s.Kind == impl.StepTest || d.roll(12) == 0 && len(s.Next) > 0 {
			s.Next[d.roll(len(s.Next))] = d.way(i, size)
		}
		p.Steps = append(p.Steps, s)
	}
	return p
}

// input is some numbers, small and at the bounds, sometimes none.
func (d *dice) input() []int {
	var in []int
	for range d.roll(7) {
		in = append(in, []int{0, 0, 1, 2, 3, 65535, d.roll(65536)}[d.roll(7)])
	}
	return in
}

// smallRunners hands on each program of so many steps that has an end, a way on, a choice or one of these four steps at each place.
func smallRunners(size int, yield func(p impl.Prog)) {
	steps := []impl.Step{{Kind: impl.StepEnd}}
	for a := range size {
		for _, s := range []impl.Step{
			{Kind: impl.StepIn},
			{Kind: impl.StepOut},
			{Kind: impl.StepSet, Op: impl.OpAdd, B: num(1)},
			{Kind: impl.StepSet, Dst: 1, Op: impl.OpMul, A: variable(0), B: num(65535)},
		} {
			s.Next = []int{a}
			steps = append(steps, s)
		}
		for b := range size {
			steps = append(steps, impl.Step{Kind: impl.StepTest, Next: []int{a, b}})
		}
	}
	eachOf(steps, make([]impl.Step, size), 0, yield)
}

// eachOf fills the places from one on with each of the steps.
func eachOf(steps, picked []impl.Step, at int, yield func(p impl.Prog)) {
	if at == len(picked) {
		yield(impl.Prog{Steps: slices.Clone(picked)})
		return
	}
	for _, s := range steps {
		picked[at] = s
		eachOf(steps, picked, at+1, yield)
	}
}

// manyRuns hands on many programs with several inputs each.
func manyRuns(yield func(p impl.Prog, in []int)) {
	inputs := [][]int{nil, {0}, {5}, {0, 65535}}
	for size := 1; size <= 2; size++ {
		smallRunners(size, func(p impl.Prog) {
			for _, in := range inputs {
				yield(p, in)
			}
		})
	}
	// Of three steps there are so many that each takes one input, in turn.
	turn := 0
	smallRunners(3, func(p impl.Prog) {
		yield(p, inputs[turn%len(inputs)])
		turn++
	})
	d := &dice{state: 31}
	for size := 1; size <= impl.ProgMax; size++ {
		for range 25 {
			p := d.runner(size)
			for range 3 {
				yield(p, d.input())
			}
		}
		yield(d.flow(size), d.input())
		yield(d.prog(size), d.input())
	}
}

// mosts are bounds at the edges, and about the length of the longest run.
func mosts(length int) []int {
	list := []int{0, 1, 2, 7, impl.RunMax - 1, impl.RunMax}
	for _, n := range []int{length - 1, length, length + 1} {
		if n >= 0 && n <= impl.RunMax {
			list = append(list, n)
		}
	}
	slices.Sort(list)
	return slices.Compact(list)
}
