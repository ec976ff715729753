package tests

import (
	"slices"

	"loop.example/causey/impl"
)

// loopsTold is all that is told of a program's loops.
type loopsTold struct {
	over  []int
	front [][]int
	heads []bool
	loops [][]bool // of each step as a head
	deep  []int
}

func loopsOf(p impl.Prog) loopsTold {
	told := loopsTold{over: impl.LoopOver(p), front: impl.LoopFront(p), heads: impl.LoopHeads(p), deep: impl.LoopDeep(p)}
	for head := range p.Steps {
		told.loops = append(told.loops, impl.LoopOf(p, head))
	}
	return told
}

func sameLoops(a, b loopsTold) bool {
	return slices.Equal(a.over, b.over) && sameLists(a.front, b.front) && slices.Equal(a.heads, b.heads) && sameLists(a.loops, b.loops) && slices.Equal(a.deep, b.deep)
}

// loopsByAsking is what is to be told, of a program that is ok, by the document's words alone.
func loopsByAsking(p impl.Prog) loopsTold {
	doms, preds := domsByShutting(p), predsByAsking(p)
	told := loopsTold{over: overByAsking(doms), front: frontByAsking(doms, preds), deep: make([]int, len(p.Steps))}
	for head := range p.Steps {
		loop := loopByGoing(p, doms, preds, head)
		told.loops = append(told.loops, loop)
		told.heads = append(told.heads, loop[head])
		for at, in := range loop {
			if in {
				told.deep[at]++
			}
		}
	}
	return told
}

// overByAsking asks of each two steps whether one is over the other, and all others that are so are over that one.
func overByAsking(doms [][]bool) []int {
	over := make([]int, len(doms))
	for at := range doms {
		over[at] = -1
		for near, yes := range doms[at] {
			if yes && near != at && allOver(doms, at, near) {
				over[at] = near
			}
		}
	}
	return over
}

func allOver(doms [][]bool, at, near int) bool {
	for other, yes := range doms[at] {
		if yes && other != at && !doms[near][other] {
			return false
		}
	}
	return true
}

func frontByAsking(doms [][]bool, preds [][]int) [][]int {
	front := make([][]int, len(doms))
	for at := range doms {
		for to, list := range preds {
			from := slices.ContainsFunc(list, func(from int) bool { return doms[from][at] })
			if from && (to == at || !doms[to][at]) {
				front[at] = append(front[at], to)
			}
		}
	}
	return front
}

// waysBack is from which steps ways lead back to a step that stands over them.
func waysBack(doms [][]bool, preds [][]int, head int) []int {
	var list []int
	for _, from := range preds[head] {
		if doms[from][head] {
			list = append(list, from)
		}
	}
	return list
}

// loopByGoing goes on, not back: a step is in a loop, if one comes from it, not past the head, to where a way leads back.
func loopByGoing(p impl.Prog, doms [][]bool, preds [][]int, head int) []bool {
	in := make([]bool, len(p.Steps))
	backs := waysBack(doms, preds, head)
	if len(backs) == 0 {
		return in
	}
	for at, can := range reachWithout(p, -1) {
		in[at] = can && at != head && goesTo(p, at, head, backs)
	}
	in[head] = true
	return in
}

// goesTo says whether one comes from a step to one of these, not past the one that is shut.
func goesTo(p impl.Prog, from, shut int, these []int) bool {
	met := make([]bool, len(p.Steps))
	met[from] = true
	for list := []int{from}; len(list) > 0; list = list[1:] {
		if slices.Contains(these, list[0]) {
			return true
		}
		for _, next := range p.Steps[list[0]].Next {
			if next != shut && !met[next] {
				met[next] = true
				list = append(list, next)
			}
		}
	}
	return false
}

// loopy is a program of so many steps with loops in loops and beside each other, some with several ways back, few with a way in past the head.
func (d *dice) loopy(size int) impl.Prog {
	var p impl.Prog
	var open []int
	for i := range size {
		if d.roll(4) == 0 {
			open = append(open, i)
		}
		on := min(i+1, size-1)
		s := d.step([]int{impl.StepSet, impl.StepOut, impl.StepSkip, impl.StepTest}[d.roll(4)], size)
		for k := range s.Next {
			s.Next[k] = on
		}
		roll := d.roll(12)
		switch {
		case roll < 4 && len(open) > 0:
			s = d.choice(on, open[len(open)-1])
			if roll < 3 {
				open = open[:len(open)-1]
			}
		case roll == 4 && len(open) > 0:
			s = d.choice(on, open[d.roll(len(open))])
		case roll == 5:
			s = d.choice(on, min(i+2+d.roll(5), size-1))
		}
		p.Steps = append(p.Steps, s)
	}
	if d.roll(3) > 0 {
		p.Steps[size-1] = impl.Step{Kind: impl.StepEnd}
	}
	return p
}

func (d *dice) choice(a, b int) impl.Step {
	if d.roll(2) == 0 {
		a, b = b, a
	}
	return impl.Step{Kind: impl.StepTest, A: d.opnd(), Next: []int{a, b}}
}

// strewn has some steps more at the end that cannot be come to, and lead anywhere.
func (d *dice) strewn(p impl.Prog) impl.Prog {
	q := cloneProg(p)
	size := min(len(p.Steps)+1+d.roll(6), impl.ProgMax)
	for len(q.Steps) < size {
		q.Steps = append(q.Steps, d.step([]int{impl.StepOut, impl.StepSkip, impl.StepTest}[d.roll(3)], size))
	}
	return q
}

// manyLoops hands on small programs, all of them, many greater ones of each size, and what they are made by tidying.
func manyLoops(yield func(p impl.Prog)) {
	both := func(p impl.Prog) {
		yield(p)
		if q := tidyByNodes(p); len(q.Steps) <= impl.ProgMax {
			yield(q)
		}
	}
	for size := 1; size <= 3; size++ {
		smallProgs(size, both)
	}
	d := &dice{state: 41}
	for size := 1; size <= impl.ProgMax; size++ {
		for range 4 {
			both(d.flow(size))
			both(d.prog(size))
			both(d.loopy(size))
			both(d.strewn(d.loopy(size)))
			both(d.strewn(d.flow(size)))
		}
	}
}

// shuffled is the program with its steps at other places, the first one excepted, and where each is then.
func (d *dice) shuffled(p impl.Prog) (impl.Prog, []int) {
	to := make([]int, len(p.Steps))
	for at := range to {
		to[at] = at
	}
	for at := len(to) - 1; at > 1; at-- {
		other := 1 + d.roll(at)
		to[at], to[other] = to[other], to[at]
	}
	q := impl.Prog{Steps: make([]impl.Step, len(p.Steps))}
	for at, s := range cloneProg(p).Steps {
		for k, next := range s.Next {
			s.Next[k] = to[next]
		}
		q.Steps[to[at]] = s
	}
	return q, to
}

// moved is what is told of a program's loops as it is told when its steps stand elsewhere.
func (l loopsTold) moved(to []int) loopsTold {
	size := len(to)
	m := loopsTold{over: make([]int, size), front: make([][]int, size), heads: make([]bool, size), loops: make([][]bool, size), deep: make([]int, size)}
	for at, there := range to {
		m.over[there] = -1
		if l.over[at] >= 0 {
			m.over[there] = to[l.over[at]]
		}
		for _, end := range l.front[at] {
			m.front[there] = append(m.front[there], to[end])
		}
		slices.Sort(m.front[there])
		m.heads[there] = l.heads[at]
		m.deep[there] = l.deep[at]
		m.loops[there] = make([]bool, size)
		for in, yes := range l.loops[at] {
			m.loops[there][to[in]] = yes
		}
	}
	return m
}
