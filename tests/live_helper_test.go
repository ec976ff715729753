package tests

import (
	"slices"

	"loop.example/causey/impl"
)

// usesOf says whether a step uses a variable.
func usesOf(s impl.Step, v int) bool {
	h, _ := shapeOf(s.Kind)
	return h.a && s.A == variable(v) || h.b && s.B == variable(v)
}

func changesVar(s impl.Step, v int) bool {
	return changesOpnd(s, variable(v))
}

// saidNeeded is the sentence about what is needed, word for word: whether it is true of a step, if `so` is what it is so of.
func saidNeeded(p impl.Prog, v, at int, so []bool) bool {
	s := p.Steps[at]
	return usesOf(s, v) || !changesVar(s, v) && someOf(s.Next, func(next int) bool { return so[next] })
}

// neededByWays is LiveOf, found by no set of steps: a variable is needed, if a row of ways leads, past nobody who changes it, to one who uses it.
func neededByWays(p impl.Prog) [][]bool {
	list := make([][]bool, len(p.Steps))
	for at := range list {
		for v := range 12 {
			list[at] = append(list[at], comes(at, func(at int) bool { return usesOf(p.Steps[at], v) }, func(at int) []int {
				if changesVar(p.Steps[at], v) {
					return nil
				}
				return p.Steps[at].Next
			}))
		}
	}
	return list
}

// mostNeeded is as many steps as there can be of which the sentence is true. It is not what the document asks for.
func mostNeeded(p impl.Prog, v int) []bool {
	so := slices.Repeat([]bool{true}, len(p.Steps))
	for range so {
		next := make([]bool, len(so))
		for at := range so {
			next[at] = saidNeeded(p, v, at, so)
		}
		so = next
	}
	return so
}

// deadByWays is LiveDead of a program that is ok.
func deadByWays(p impl.Prog) impl.Prog {
	needed, q := neededByWays(p), cloneProg(p)
	for at, s := range p.Steps {
		changing := s.Kind == impl.StepSet || s.Kind == impl.StepCopy
		if changing && !someOf(s.Next, func(next int) bool { return needed[next][s.Dst] }) {
			q.Steps[at] = impl.Step{Kind: impl.StepSkip, Next: slices.Clone(s.Next)}
		}
	}
	return q
}

// copying is a StepCopy by its Dst and A.
type copying struct {
	dst int
	a   impl.Opnd
}

// copyings are the StepCopies of a program in order, but those of a variable to itself.
func copyings(p impl.Prog) []copying {
	var list []copying
	for _, s := range p.Steps {
		if s.Kind == impl.StepCopy && s.A != variable(s.Dst) {
			list = append(list, copying{s.Dst, s.A})
		}
	}
	return list
}

// isAt says whether a step is a StepCopy of just that Dst and A.
func (c copying) isAt(s impl.Step) bool {
	return s.Kind == impl.StepCopy && s.Dst == c.dst && s.A == c.a
}

// endsAt says whether a step changes its Dst, or a variable that A is, and is not that StepCopy.
func (c copying) endsAt(s impl.Step) bool {
	return !c.isAt(s) && (changesVar(s, c.dst) || changesOpnd(s, c.a))
}

// saidHolds is the sentence about copies, word for word.
func (c copying) saidHolds(m matter, at int, so []bool) bool {
	return at != 0 && !someOf(m.ahead[at], func(from int) bool {
		s := m.p.Steps[from]
		return !(c.isAt(s) || !changesVar(s, c.dst) && !changesOpnd(s, c.a) && so[from])
	})
}

// holdsByWays is ahead of which steps a copy holds, found by no set of steps: those from which no row of ways leads back, past no such StepCopy, to where it ends, or to the first step.
func (c copying) holdsByWays(p impl.Prog, reach []bool, ahead [][]int) []bool {
	list := make([]bool, len(p.Steps))
	for at, can := range reach {
		list[at] = can && !comes(at, func(at int) bool {
			return at == 0 || someOf(ahead[at], func(from int) bool { return c.endsAt(p.Steps[from]) })
		}, func(at int) []int {
			return without(ahead[at], func(from int) bool { return c.isAt(p.Steps[from]) })
		})
	}
	return list
}

// eachUsed hands on each operand that a step uses, to be written over.
func eachUsed(s *impl.Step, yield func(o *impl.Opnd)) {
	h, _ := shapeOf(s.Kind)
	if h.a {
		yield(&s.A)
	}
	if h.b {
		yield(&s.B)
	}
}

// copiedByWays is LiveCopy of a program that is ok.
func copiedByWays(p impl.Prog) impl.Prog {
	reach, ahead := reachWithout(p, -1), predsByAsking(p)
	var held [][]bool
	list := copyings(p)
	for _, c := range list {
		held = append(held, c.holdsByWays(p, reach, ahead))
	}
	q := cloneProg(p)
	for at := range q.Steps {
		eachUsed(&q.Steps[at], func(o *impl.Opnd) {
			first := slices.IndexFunc(list, func(c copying) bool { return variable(c.dst) == *o && held[slices.Index(list, c)][at] })
			if first >= 0 {
				*o = list[first].a
			}
		})
	}
	return q
}

// foldedByWrap is LiveFold of a program that is ok.
func foldedByWrap(p impl.Prog) impl.Prog {
	q := cloneProg(p)
	for at, s := range p.Steps {
		numbers := true
		eachUsed(&s, func(o *impl.Opnd) { numbers = numbers && o.Var < 0 })
		switch {
		case numbers && s.Kind == impl.StepSet:
			told := opByWrap(s.Op, uint16(s.A.Num), uint16(s.B.Num))
			q.Steps[at] = impl.Step{Kind: impl.StepCopy, Dst: s.Dst, A: num(int(told)), Next: []int{s.Next[0]}}
		case numbers && s.Kind == impl.StepTest && s.A.Num == 0:
			q.Steps[at] = impl.Step{Kind: impl.StepSkip, Next: []int{s.Next[1]}}
		case numbers && s.Kind == impl.StepTest:
			q.Steps[at] = impl.Step{Kind: impl.StepSkip, Next: []int{s.Next[0]}}
		}
	}
	return q
}

// pastNodes is the first node behind skips that is none; the node itself, if they only lead round.
func pastNodes(n *node) *node {
	met := map[*node]bool{}
	for to := n; !met[to]; to = to.next[0] {
		if !isSkip(to.step) {
			return to
		}
		met[to] = true
	}
	return n
}

// skippedByNodes is LiveSkip of a program that is ok.
func skippedByNodes(p impl.Prog) impl.Prog {
	nodes := nodesOf(p)
	past := map[*node]*node{}
	for _, n := range nodes {
		past[n] = pastNodes(n)
	}
	for _, n := range nodes {
		for i, to := range n.next {
			n.next[i] = past[to]
		}
	}
	first := past[nodes[0]]
	order := append([]*node{first}, slices.DeleteFunc(slices.Clone(nodes), func(n *node) bool { return n == first })...)
	met := map[*node]bool{first: true}
	for list := []*node{first}; len(list) > 0; list = list[1:] {
		for _, to := range list[0].next {
			if !met[to] {
				met[to] = true
				list = append(list, to)
			}
		}
	}
	return progOfNodes(slices.DeleteFunc(order, func(n *node) bool { return !met[n] }))
}

// leadsRound says whether a step is a skip from which one comes to nothing but skips.
func leadsRound(p impl.Prog, at int) bool {
	for range len(p.Steps) + 1 {
		if !isSkip(p.Steps[at]) {
			return false
		}
		at = p.Steps[at].Next[0]
	}
	return true
}

// liveOpnd is one of few variables, or a number, as often as so many of ten.
func (d *dice) liveOpnd(numbers int) impl.Opnd {
	if d.roll(10) < numbers {
		return num([]int{0, 0, 1, 1, 2, 256, 65535, d.roll(65536)}[d.roll(8)])
	}
	return variable(d.roll(4))
}

// waste is a step of one way, of one of these kinds, without its way.
func (d *dice) waste(kinds []int, numbers int) impl.Step {
	s := d.step(kinds[d.roll(len(kinds))], 1)
	s.Next = nil
	if h, _ := shapeOf(s.Kind); h.dst {
		s.Dst = d.roll(4)
	}
	eachUsed(&s, func(o *impl.Opnd) { *o = d.liveOpnd(numbers) })
	return s
}

// wasteful is a program with much to leave out: what nobody needs, copies, reckonings of numbers, choices by numbers, and skips, some of which lead round.
func (d *dice) wasteful(size int) impl.Prog {
	var p impl.Prog
	switch d.roll(6) {
	case 0, 1:
		p = d.flow(size)
	case 2:
		p = d.strewn(d.loopy(size))
	case 3, 4:
		p = d.runner(size)
	default:
		p = d.prog(size)
	}
	kinds := [][]int{
		{impl.StepSet, impl.StepCopy, impl.StepCopy, impl.StepOut},
		{impl.StepCopy, impl.StepCopy, impl.StepCopy, impl.StepCopy, impl.StepOut, impl.StepTest, impl.StepSet, impl.StepIn},
		{impl.StepSet, impl.StepSet, impl.StepIn, impl.StepOut},
		{impl.StepSkip, impl.StepSkip, impl.StepSkip, impl.StepOut, impl.StepCopy},
		{impl.StepSet, impl.StepCopy, impl.StepOut, impl.StepSkip, impl.StepSkip},
	}[d.roll(5)]
	numbers := d.roll(8)
	for at, s := range p.Steps {
		if len(s.Next) == 0 {
			continue
		}
		t := d.waste(kinds, numbers)
		if len(s.Next) == 2 || t.Kind == impl.StepTest {
			t = impl.Step{Kind: impl.StepTest, A: d.liveOpnd(numbers)}
		}
		t.Next = slices.Clone(s.Next)
		if isSkip(t) && d.roll(5) == 0 {
			t.Next[0] = d.roll(len(p.Steps))
		}
		if t.Kind == impl.StepTest && len(t.Next) == 1 {
			t.Next = append(t.Next, d.roll(len(p.Steps)))
		}
		p.Steps[at] = t
	}
	return p
}

// astray has some wasteful steps more at the end, which cannot be come to and lead anywhere.
func (d *dice) astray(p impl.Prog) impl.Prog {
	q := cloneProg(p)
	size := min(len(p.Steps)+1+d.roll(5), impl.ProgMax)
	for len(q.Steps) < size {
		s := d.waste([]int{impl.StepSet, impl.StepCopy, impl.StepCopy, impl.StepIn, impl.StepOut, impl.StepSkip}, 3)
		s.Next = []int{d.roll(size)}
		q.Steps = append(q.Steps, s)
	}
	return q
}

// wastefulSteps are a step of each kind that matters for needs and copies, in a program of so many.
func wastefulSteps(size int) []impl.Step {
	steps := []impl.Step{{Kind: impl.StepEnd}}
	for a := range size {
		for _, s := range []impl.Step{
			{Kind: impl.StepSkip},
			{Kind: impl.StepOut, A: variable(1)},
			{Kind: impl.StepCopy, Dst: 1, A: variable(0)},
			{Kind: impl.StepCopy, Dst: 0, A: variable(1)},
			{Kind: impl.StepCopy, Dst: 1, A: num(7)},
			{Kind: impl.StepSet, Dst: 1, Op: impl.OpAdd, A: variable(1), B: num(1)},
			{Kind: impl.StepIn},
		} {
			s.Next = []int{a}
			steps = append(steps, s)
		}
		for b := range size {
			steps = append(steps, impl.Step{Kind: impl.StepTest, A: variable(1), Next: []int{a, b}})
		}
	}
	return steps
}

// smallWastes hands on all programs of up to three steps of few kinds.
func smallWastes(yield func(p impl.Prog)) {
	for size := 1; size <= 3; size++ {
		eachOf(wastefulSteps(size), make([]impl.Step, size), 0, yield)
	}
}

// greatWastes hands on many programs of each of these sizes, and what they are made by tidying.
func greatWastes(from, to, times int, yield func(p impl.Prog)) {
	d := &dice{state: 121}
	for size := from; size <= to; size++ {
		for range times {
			p := d.wasteful(size)
			if d.roll(4) == 0 {
				p = d.astray(p)
			}
			yield(p)
			if q := tidyByNodes(p); len(q.Steps) <= impl.ProgMax {
				yield(q)
			}
		}
	}
}

// manyWastes hands on small programs, and greater ones of each size.
func manyWastes(yield func(p impl.Prog)) {
	smallWastes(yield)
	greatWastes(1, impl.ProgMax, 12, yield)
}

// wasteInputs are inputs for a program: none, few, many.
func (d *dice) wasteInputs() [][]int {
	some := append(d.input(), 3, 65535)
	return [][]int{nil, some, slices.Repeat(some, 40)}
}

// wasteRuns hands on programs with inputs each.
func wasteRuns(yield func(p impl.Prog, in []int)) {
	d := &dice{state: 122}
	turn := 0
	smallWastes(func(p impl.Prog) {
		turn++
		yield(p, [][]int{nil, {9}, {0, 65535, 4}}[turn%3])
	})
	greatWastes(1, impl.ProgMax, 8, func(p impl.Prog) {
		for _, in := range d.wasteInputs() {
			yield(p, in)
		}
	})
}

// livePasses are the four passes with their names.
func livePasses() map[string]func(p impl.Prog) impl.Prog {
	return map[string]func(p impl.Prog) impl.Prog{"dead": impl.LiveDead, "copy": impl.LiveCopy, "fold": impl.LiveFold, "skip": impl.LiveSkip}
}
