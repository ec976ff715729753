package tests

import (
	"slices"
	"strings"

	"loop.example/causey/impl"
)

// sixNames are the names of all passes.
var sixNames = []string{"tidy", "move", "dead", "copy", "fold", "skip"}

// reckonings are what the steps of a program reckon, each once, in the order of the first step that does.
func reckonings(p impl.Prog) []impl.Expr {
	var list []impl.Expr
	for _, s := range p.Steps {
		if e, ok := exprOf(s); ok && !slices.Contains(list, e) {
			list = append(list, e)
		}
	}
	return list
}

// movedTold is what comes of a program when all its reckonings are moved, and what became of each of these, in order.
type movedTold struct {
	prog  impl.Prog
	ok    bool
	fates []string
}

// movedByWords is PassMove of a program that is ok, sentence by sentence, by none of the program's own means.
func movedByWords(p impl.Prog) movedTold {
	m := movedTold{prog: tidyByNodes(p), ok: true}
	if len(m.prog.Steps) > 60 {
		return movedTold{}
	}
	for _, e := range reckonings(m.prog) {
		m.fates = append(m.fates, m.moveOne(e))
	}
	return m
}

func (m *movedTold) moveOne(e impl.Expr) string {
	s := sceneOf(m.prog, e)
	x, vars := s.lazy(), idle(m.prog)
	switch {
	case countOf(x.Puts) == 0:
		return "nowhere"
	case len(vars) == 0:
		return "no variable"
	case e.A == variable(vars[0]) || e.B == variable(vars[0]) || !s.admits(x):
		return "not admissible"
	case len(m.prog.Steps)+countOf(x.Puts) > 60:
		return "no room"
	}
	m.prog = movedByNodes(m.prog, e, x, vars[0])
	return "moved"
}

// passByWords is PassDo of a program that is ok, by none of the program's own means.
func passByWords(p impl.Prog, name string) (impl.Prog, bool) {
	switch name {
	case "tidy":
		if q := tidyByNodes(p); len(q.Steps) <= 60 {
			return q, true
		}
	case "move":
		if m := movedByWords(p); m.ok {
			return m.prog, true
		}
	case "dead":
		return deadByWays(p), true
	case "copy":
		return copiedByWays(p), true
	case "fold":
		return foldedByWrap(p), true
	case "skip":
		return skippedByNodes(p), true
	}
	return p, false
}

// allByWords is PassAll of a program that is ok.
func allByWords(p impl.Prog, names []string) (impl.Prog, bool) {
	if len(names) > 12 {
		return impl.Prog{}, false
	}
	for _, name := range names {
		q, ok := passByWords(p, name)
		if !ok {
			return p, false
		}
		p = q
	}
	return p, true
}

// namesByBlanks is the names in a first line, byte by byte.
func namesByBlanks(line string) []string {
	if len(line) == 0 {
		return nil
	}
	names := []string{""}
	for i := range len(line) {
		if line[i] == ' ' {
			names = append(names, "")
		} else {
			names[len(names)-1] += line[i : i+1]
		}
	}
	return names
}

// textByWords is PassText.
func textByWords(text string) string {
	at := strings.IndexByte(text, '\n')
	if at < 0 {
		return "bad\n"
	}
	p, ok := readByForms(text[at+1:])
	if !ok {
		return "bad\n"
	}
	q, ok := allByWords(p, namesByBlanks(text[:at]))
	if !ok {
		return "no\n"
	}
	return impl.ProgWrite(q)
}

// withAhead is a program with a step ahead of all.
func withAhead(p impl.Prog, s impl.Step) impl.Prog {
	q := cloneProg(p)
	for _, s := range q.Steps {
		for k := range s.Next {
			s.Next[k]++
		}
	}
	h, _ := shapeOf(s.Kind)
	s.Next = slices.Repeat([]int{1}, h.next)
	return impl.Prog{Steps: append([]impl.Step{s}, q.Steps...)}
}

// naming is a step that has to do with a variable, and with no other one.
func (d *dice) naming(v int) impl.Step {
	return []impl.Step{
		{Kind: impl.StepOut, A: variable(v)},
		{Kind: impl.StepTest, A: variable(v)},
		{Kind: impl.StepCopy, Dst: v, A: num(v)},
		{Kind: impl.StepSet, Dst: v, Op: impl.OpSub, A: num(v), B: num(1)},
	}[d.roll(4)]
}

// crowded is a program with steps ahead, as far as there is room, so that no more variables are left than so many.
func (d *dice) crowded(p impl.Prog, left int) impl.Prog {
	for vars := idle(p); len(vars) > left && len(p.Steps) < impl.ProgMax; vars = idle(p) {
		p = withAhead(p, d.naming(vars[d.roll(len(vars))]))
	}
	return p
}

// filledUp is a program made tidy, if it can be, with so many skips ahead that few steps more have room.
func (d *dice) filledUp(p impl.Prog) impl.Prog {
	if q := tidyByNodes(p); len(q.Steps) <= impl.ProgMax {
		p = q
	}
	for most := impl.ProgMax - d.roll(5); len(p.Steps) < most; {
		p = withAhead(p, impl.Step{Kind: impl.StepSkip})
	}
	return p
}

// severalOpnd is one of few variables, or a small number.
func (d *dice) severalOpnd() impl.Opnd {
	if d.roll(4) == 0 {
		return num([]int{0, 1, 2, 3, 65535}[d.roll(5)])
	}
	return variable(d.roll(4))
}

// several is a program whose steps reckon one or another of few reckonings, some of what others make; what is let out and chosen by hangs on them.
func (d *dice) several(size int) impl.Prog {
	p := []impl.Prog{d.flow(size), d.strewn(d.loopy(size)), d.loopy(size), d.runner(size)}[d.roll(4)]
	var few []impl.Expr
	for range 1 + d.roll(5) {
		few = append(few, impl.Expr{Op: 1 + d.roll(4), A: d.severalOpnd(), B: d.severalOpnd()})
	}
	reckon, change := 5+d.roll(8), d.roll(4)
	for at, s := range p.Steps {
		if len(s.Next) == 2 {
			p.Steps[at].A = variable(d.roll(7))
		}
		if len(s.Next) != 1 {
			continue
		}
		e, roll := few[d.roll(len(few))], d.roll(20)
		t := impl.Step{Kind: impl.StepOut, A: variable(d.roll(7))}
		switch {
		case roll < reckon:
			t = impl.Step{Kind: impl.StepSet, Dst: []int{4, 4, 5, 6, d.roll(4)}[d.roll(5)], Op: e.Op, A: e.A, B: e.B}
		case roll < reckon+change:
			t = []impl.Step{{Kind: impl.StepIn, Dst: d.roll(4)}, {Kind: impl.StepCopy, Dst: d.roll(4), A: variable(4 + d.roll(3))}}[d.roll(2)]
		case roll%3 == 0:
			t = impl.Step{Kind: impl.StepSkip}
		}
		t.Next = slices.Clone(s.Next)
		p.Steps[at] = t
	}
	for at := range min(2, size) {
		if len(p.Steps[at].Next) == 1 && d.roll(3) > 0 {
			p.Steps[at] = impl.Step{Kind: impl.StepIn, Dst: d.roll(4), Next: p.Steps[at].Next}
		}
	}
	return p
}

// manySeverals hands on programs of each of these sizes, with many variables left, few, and none.
func manySeverals(from, to, times int, yield func(p impl.Prog)) {
	d := &dice{state: 151}
	for size := from; size <= to; size++ {
		for range times {
			p := d.several(size)
			yield(p)
			yield(d.crowded(p, d.roll(3)))
			e := movables()[d.roll(5)]
			yield(d.runMover(size, e))
		}
	}
}

// severalRuns hands on programs with inputs each: small ones of several kinds, and greater ones.
func severalRuns(times int, yield func(p impl.Prog, in []int)) {
	d := &dice{state: 152}
	turn := 0
	for size := 1; size <= 3; size++ {
		eachOf(changers(movables()[2], size), make([]impl.Step, size), 0, func(p impl.Prog) {
			turn++
			yield(p, [][]int{nil, {9}, {9, 2, 65535, 0, 4}}[turn%3])
		})
	}
	manySeverals(4, impl.ProgMax, times, func(p impl.Prog) {
		for _, in := range d.inputsOf() {
			yield(p, in)
		}
	})
}

// saysAs is how far what a program says is held against what another one says.
type saysAs int

const (
	saysElse saysAs = iota // it says something else
	saysOn                 // one of both runs was broken off: as far as they go they say the same
	saysAll                // both ran to where they end
)

// saysTheSame holds the runs of two programs against each other; one of them may be longer.
func saysTheSame(r, s impl.Result) saysAs {
	switch {
	case r.Code == impl.RunBad || s.Code == impl.RunBad:
		return saysElse
	case r.Code == impl.RunLong && s.Code == impl.RunLong && (begins(r.Outs, s.Outs) || begins(s.Outs, r.Outs)):
		return saysOn
	case r.Code == impl.RunLong && s.Code != impl.RunLong && begins(r.Outs, s.Outs):
		return saysOn
	case r.Code != impl.RunLong && s.Code == impl.RunLong && begins(s.Outs, r.Outs):
		return saysOn
	case r.Code != impl.RunLong && r.Code == s.Code && slices.Equal(r.Outs, s.Outs):
		return saysAll
	}
	return saysElse
}
