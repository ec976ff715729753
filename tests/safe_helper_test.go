package tests

import (
	"slices"

	"loop.example/causey/impl"
)

// safeTold is the six rows of where a reckoning is safe.
type safeTold struct {
	down, up, early, delay, late, alone []bool
}

func safeOf(p impl.Prog, e impl.Expr) safeTold {
	return safeTold{
		down:  impl.SafeDown(p, e),
		up:    impl.SafeUp(p, e),
		early: impl.SafeEarly(p, e),
		delay: impl.SafeDelay(p, e),
		late:  impl.SafeLate(p, e),
		alone: impl.SafeAlone(p, e),
	}
}

func (s safeTold) rows() [][]bool {
	return [][]bool{s.down, s.up, s.early, s.delay, s.late, s.alone}
}

func sameSafe(a, b safeTold) bool {
	return sameLists(a.rows(), b.rows())
}

// matter is what the document's six sentences about a reckoning name, of each step.
type matter struct {
	p       impl.Prog
	reach   []bool
	ahead   [][]int
	reckons []bool
	keeps   []bool
}

func matterOf(p impl.Prog, e impl.Expr) matter {
	return matter{p: p, reach: reachWithout(p, -1), ahead: predsByAsking(p), reckons: compByWords(p, e), keeps: keepsByWords(p, e)}
}

func (m matter) behind(at int) []int {
	return m.p.Steps[at].Next
}

// someOf says whether it is so of one of these at least.
func someOf(list []int, is func(at int) bool) bool {
	return slices.ContainsFunc(list, is)
}

// The six sentences, word for word: whether one is true of a step, if `so` is what it is so of.

func (m matter) saidDown(at int, so []bool) bool {
	return m.reckons[at] || m.keeps[at] && len(m.behind(at)) > 0 && !someOf(m.behind(at), func(next int) bool { return !so[next] })
}

func (m matter) saidUp(at int, so []bool) bool {
	return at != 0 && !someOf(m.ahead[at], func(from int) bool { return !(m.keeps[from] && (m.reckons[from] || so[from])) })
}

func (m matter) saidEarly(at int, down, up []bool) bool {
	return down[at] && (at == 0 || someOf(m.ahead[at], func(from int) bool { return !m.keeps[from] || !down[from] && !up[from] }))
}

func (m matter) saidDelay(at int, early, so []bool) bool {
	return early[at] || at != 0 && !someOf(m.ahead[at], func(from int) bool { return !so[from] || m.reckons[from] })
}

func (m matter) saidLate(at int, delay []bool) bool {
	return delay[at] && (m.reckons[at] || someOf(m.behind(at), func(next int) bool { return !delay[next] }))
}

func (m matter) saidAlone(at int, late, so []bool) bool {
	return !someOf(m.behind(at), func(next int) bool { return !(late[next] || !m.reckons[next] && so[next]) })
}

// each asks of each step that can be come to.
func (m matter) each(is func(at int) bool) []bool {
	list := make([]bool, len(m.reach))
	for at, can := range m.reach {
		list[at] = can && is(at)
	}
	return list
}

// greatest finds, of what a sentence says, as many steps as there can be of which it is true.
type greatest func(m matter, said func(at int, so []bool) bool) []bool

func (m matter) safeBy(most greatest) safeTold {
	var s safeTold
	s.down = most(m, m.saidDown)
	s.up = most(m, m.saidUp)
	s.early = m.each(func(at int) bool { return m.saidEarly(at, s.down, s.up) })
	s.delay = most(m, func(at int, so []bool) bool { return m.saidDelay(at, s.early, so) })
	s.late = m.each(func(at int) bool { return m.saidLate(at, s.delay) })
	s.alone = most(m, func(at int, so []bool) bool { return m.saidAlone(at, s.late, so) })
	return s
}

// fits says whether the sentence is true of all these steps, if it is so of them alone, and they can be come to.
func (m matter) fits(so []bool, said func(at int, so []bool) bool) bool {
	for at, yes := range so {
		if yes && !(m.reach[at] && said(at, so)) {
			return false
		}
	}
	return true
}

// bySets tries all sets of steps, and takes the greatest of those that fit.
func bySets(m matter, said func(at int, so []bool) bool) []bool {
	var best []bool
	for bits := range 1 << len(m.reach) {
		so := make([]bool, len(m.reach))
		for at := range so {
			so[at] = bits>>at&1 == 1
		}
		if m.fits(so, said) && (best == nil || countOf(so) > countOf(best)) {
			best = so
		}
	}
	return best
}

// least is as few steps as there can be: those of which the sentence must be true. It is not what the document asks for.
func least(m matter, said func(at int, so []bool) bool) []bool {
	so := make([]bool, len(m.reach))
	for range m.reach {
		so = m.each(func(at int) bool { return said(at, so) })
	}
	return so
}

// comes says whether one comes from a step, by where it leads on from each, to one that is wrong by itself.
func comes(from int, wrong func(at int) bool, on func(at int) []int) bool {
	met := map[int]bool{from: true}
	for list := []int{from}; len(list) > 0; list = list[1:] {
		if wrong(list[0]) {
			return true
		}
		for _, next := range on(list[0]) {
			if !met[next] {
				met[next] = true
				list = append(list, next)
			}
		}
	}
	return false
}

// without is the steps of a list of which it is not so.
func without(list []int, is func(at int) bool) []int {
	return slices.DeleteFunc(slices.Clone(list), is)
}

// safeByWays is what is to be told, found by no set of steps: it is so of a step, unless a row of ways leads from it to what makes it wrong.
func safeByWays(p impl.Prog, e impl.Expr) safeTold {
	m := matterOf(p, e)
	reckons := func(at int) bool { return m.reckons[at] }
	var s safeTold
	s.down = m.each(func(at int) bool {
		return !comes(at, func(at int) bool {
			return !m.reckons[at] && (!m.keeps[at] || m.p.Steps[at].Kind == impl.StepEnd)
		}, func(at int) []int {
			if m.reckons[at] {
				return nil
			}
			return m.behind(at)
		})
	})
	s.up = m.each(func(at int) bool {
		return !comes(at, func(at int) bool {
			return at == 0 || someOf(m.ahead[at], func(from int) bool { return !m.keeps[from] })
		}, func(at int) []int {
			return without(m.ahead[at], reckons)
		})
	})
	s.early = m.each(func(at int) bool { return m.saidEarly(at, s.down, s.up) })
	s.delay = m.each(func(at int) bool {
		return !comes(at, func(at int) bool {
			return !s.early[at] && (at == 0 || someOf(m.ahead[at], reckons))
		}, func(at int) []int {
			if s.early[at] {
				return nil
			}
			return m.ahead[at]
		})
	})
	s.late = m.each(func(at int) bool { return m.saidLate(at, s.delay) })
	late := func(at int) bool { return s.late[at] }
	s.alone = m.each(func(at int) bool {
		return !comes(at, func(at int) bool {
			return someOf(without(m.behind(at), late), reckons)
		}, func(at int) []int {
			return without(m.behind(at), late)
		})
	})
	return s
}

// movables are reckonings of each kind of operands.
func movables() []impl.Expr {
	return []impl.Expr{
		{Op: impl.OpAdd, A: variable(0), B: variable(1)},
		{Op: impl.OpMul, A: variable(3), B: variable(3)},
		{Op: impl.OpSub, A: num(5), B: variable(0)},
		{Op: impl.OpLess, A: variable(11), B: num(65535)},
		{Op: impl.OpAdd, A: num(3), B: num(4)},
	}
}

// idleVar is a variable that is no operand of a movable reckoning.
const idleVar = 7

// changes is a step that changes an operand of the reckoning, if it has a variable.
func (d *dice) changes(e impl.Expr) impl.Step {
	o := []impl.Opnd{e.A, e.B}[d.roll(2)]
	if o.Var == -1 {
		o = variable(max(e.A.Var, e.B.Var, 0))
	}
	return []impl.Step{
		{Kind: impl.StepIn, Dst: o.Var},
		{Kind: impl.StepCopy, Dst: o.Var, A: variable(idleVar)},
		{Kind: impl.StepSet, Dst: o.Var, Op: impl.OpAdd, A: o, B: num(1)},
		{Kind: impl.StepSet, Dst: o.Var, Op: e.Op, A: e.A, B: e.B},
	}[d.roll(4)]
}

// idles is a step that neither reckons it nor changes an operand.
func (d *dice) idles(e impl.Expr) impl.Step {
	return []impl.Step{
		{Kind: impl.StepSkip},
		{Kind: impl.StepOut, A: e.A},
		{Kind: impl.StepIn, Dst: idleVar},
		{Kind: impl.StepCopy, Dst: idleVar, A: e.B},
		{Kind: impl.StepSet, Dst: idleVar, Op: impl.OpAdd + e.Op%4, A: e.A, B: e.B},
	}[d.roll(5)]
}

// about has the ways of a program, and at steps of one way what has to do with the reckoning: so many of twenty reckon it, and so many change an operand.
func (d *dice) about(p impl.Prog, e impl.Expr, reckon, change int) impl.Prog {
	q := cloneProg(p)
	for at, s := range q.Steps {
		if len(s.Next) != 1 {
			continue
		}
		roll := d.roll(20)
		switch {
		case roll < reckon:
			q.Steps[at] = impl.Step{Kind: impl.StepSet, Dst: idleVar + d.roll(2), Op: e.Op, A: e.A, B: e.B}
		case roll < reckon+change:
			q.Steps[at] = d.changes(e)
		default:
			q.Steps[at] = d.idles(e)
		}
		q.Steps[at].Next = slices.Clone(s.Next)
	}
	return q
}

// mover is a program of ways of one kind or another, in which several steps reckon it.
func (d *dice) mover(size int, e impl.Expr) impl.Prog {
	var p impl.Prog
	switch d.roll(5) {
	case 0, 1:
		p = d.flow(size)
	case 2, 3:
		p = d.strewn(d.loopy(size))
	default:
		p = d.prog(size)
	}
	return d.about(p, e, []int{1, 3, 6}[d.roll(3)], []int{0, 1, 2, 4}[d.roll(4)])
}

// movedSteps are a step of each kind that matters for the first of the movables, in a program of so many.
func movedSteps(size int) []impl.Step {
	e := movables()[0]
	steps := []impl.Step{{Kind: impl.StepEnd}}
	for a := range size {
		for _, s := range []impl.Step{
			{Kind: impl.StepSkip},
			{Kind: impl.StepSet, Dst: idleVar, Op: e.Op, A: e.A, B: e.B},
			{Kind: impl.StepSet, Dst: e.A.Var, Op: e.Op, A: e.A, B: e.B},
			{Kind: impl.StepIn, Dst: e.B.Var},
		} {
			s.Next = []int{a}
			steps = append(steps, s)
		}
		for b := range size {
			steps = append(steps, impl.Step{Kind: impl.StepTest, A: variable(idleVar), Next: []int{a, b}})
		}
	}
	return steps
}

// bothTidy hands on a program, and what it is made by tidying.
func bothTidy(p impl.Prog, e impl.Expr, yield func(p impl.Prog, e impl.Expr)) {
	yield(p, e)
	if q := tidyByNodes(p); len(q.Steps) <= impl.ProgMax {
		yield(q, e)
	}
}

// smallMovers hands on all programs of up to three steps of few kinds, with what they are made by tidying.
func smallMovers(yield func(p impl.Prog, e impl.Expr)) {
	for size := 1; size <= 3; size++ {
		eachOf(movedSteps(size), make([]impl.Step, size), 0, func(p impl.Prog) {
			bothTidy(p, movables()[0], yield)
		})
	}
}

// greatMovers hands on many programs of each of these sizes, with what they are made by tidying, and with reckonings that are moved there, or nearly so.
func greatMovers(from, to, times int, yield func(p impl.Prog, e impl.Expr)) {
	d := &dice{state: 61}
	for size := from; size <= to; size++ {
		for range times {
			for _, e := range movables() {
				p := d.mover(size, e)
				bothTidy(p, e, yield)
				if d.roll(4) == 0 {
					other := nearly(e)
					bothTidy(p, other[d.roll(len(other))], yield)
				}
			}
		}
	}
}

// manyMovers hands on small programs, and greater ones of each size.
func manyMovers(yield func(p impl.Prog, e impl.Expr)) {
	smallMovers(yield)
	greatMovers(1, impl.ProgMax, 6, yield)
}
