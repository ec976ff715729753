package tests

import (
	"slices"
	"strconv"

	"loop.example/causey/impl"
)

func opndSaid(o impl.Opnd) string {
	if o.Var == -1 {
		return strconv.Itoa(o.Num)
	}
	return "v" + strconv.Itoa(o.Var)
}

// exprSaid is a reckoning that is ok in words: two are the same just if their words are.
func exprSaid(e impl.Expr) string {
	return opndSaid(e.A) + " " + string(" +-*<"[e.Op]) + " " + opndSaid(e.B)
}

func exprsSaid(list []impl.Expr) []string {
	var words []string
	for _, e := range list {
		words = append(words, exprSaid(e))
	}
	return words
}

// exprOf is what a step reckons; false, if it reckons nothing.
func exprOf(s impl.Step) (impl.Expr, bool) {
	if s.Kind != impl.StepSet {
		return impl.Expr{}, false
	}
	return impl.Expr{Op: s.Op, A: s.A, B: s.B}, true
}

func turned(e impl.Expr) impl.Expr {
	return impl.Expr{Op: e.Op, A: e.B, B: e.A}
}

// sayers is, of each step in words, what it reckons, and which variable it changes; empty, if there is none.
func sayers(p impl.Prog) (reckons, changes []string) {
	for _, s := range p.Steps {
		reckoning, change := "", ""
		if e, ok := exprOf(s); ok {
			reckoning = exprSaid(e)
		}
		if h, _ := shapeOf(s.Kind); h.dst {
			change = opndSaid(variable(s.Dst))
		}
		reckons, changes = append(reckons, reckoning), append(changes, change)
	}
	return reckons, changes
}

// listByWords is ExprList in words: of each step's what no step ahead of it says.
func listByWords(p impl.Prog) []string {
	var list []string
	reckons, _ := sayers(p)
	for at, said := range reckons {
		if said != "" && !slices.Contains(reckons[:at], said) {
			list = append(list, said)
		}
	}
	return list
}

func compByWords(p impl.Prog, e impl.Expr) []bool {
	var comp []bool
	reckons, _ := sayers(p)
	for _, said := range reckons {
		comp = append(comp, said == exprSaid(e))
	}
	return comp
}

func keepsByWords(p impl.Prog, e impl.Expr) []bool {
	var keeps []bool
	_, changes := sayers(p)
	for _, said := range changes {
		keeps = append(keeps, said != opndSaid(e.A) && said != opndSaid(e.B))
	}
	return keeps
}

// exprOkByTable is ExprOk without any of the program's own means.
func exprOkByTable(e impl.Expr) bool {
	return slices.Contains([]int{impl.OpAdd, impl.OpSub, impl.OpMul, impl.OpLess}, e.Op) && opndByTable(true, e.A) && opndByTable(true, e.B)
}

// alikeOpnd is one of few operands, among them numbers and variables with the same digits.
func (d *dice) alikeOpnd() impl.Opnd {
	digits := []int{0, 0, 1, 1, 2, 10, 11}[d.roll(7)]
	if d.roll(3) == 0 {
		return num(digits)
	}
	return variable(digits)
}

// alike is a program with so few operands that many steps reckon the same, or nearly, and most change an operand of some.
func (d *dice) alike(size int) impl.Prog {
	p := d.flow(size)
	for i := range p.Steps {
		s := &p.Steps[i]
		if len(s.Next) == 1 && d.roll(3) > 0 {
			*s = impl.Step{Kind: impl.StepSet, Op: 1 + d.roll(4), Next: s.Next}
		}
		h, _ := shapeOf(s.Kind)
		if h.dst {
			s.Dst = []int{0, 1, 2, 10, 11, d.roll(12)}[d.roll(6)]
		}
		if h.a {
			s.A = d.alikeOpnd()
		}
		if h.b {
			s.B = d.alikeOpnd()
		}
	}
	return p
}

// nearly are a reckoning, and others that differ from it in one thing alone, or in what is turned about.
func nearly(e impl.Expr) []impl.Expr {
	list := []impl.Expr{e, turned(e)}
	for op := impl.OpAdd; op <= impl.OpLess; op++ {
		list = append(list, impl.Expr{Op: op, A: e.A, B: e.B})
	}
	for _, o := range []impl.Opnd{variable(0), variable(1), variable(11), num(0), num(1), num(11), num(65535)} {
		list = append(list, impl.Expr{Op: e.Op, A: o, B: e.B}, impl.Expr{Op: e.Op, A: e.A, B: o})
	}
	return append(list, impl.Expr{Op: e.Op, A: e.A, B: e.A}, impl.Expr{Op: e.Op, A: e.B, B: e.B})
}

// asked are reckonings that are ok to ask a program for, each once: what its steps reckon, what is nearly so, and others.
func asked(p impl.Prog) []impl.Expr {
	list := nearly(impl.Expr{Op: impl.OpSub, A: variable(0), B: variable(1)})
	for at, s := range p.Steps {
		e, ok := exprOf(s)
		if ok && at%15 == 1 {
			list = append(list, nearly(e)...)
		} else if ok {
			list = append(list, e, turned(e))
		}
	}
	var once []impl.Expr
	known := map[impl.Expr]bool{}
	for _, e := range list {
		if !known[e] {
			known[e] = true
			once = append(once, e)
		}
	}
	return once
}

// fewSteps are all steps that reckon by two operations with few operands, and a step of each other kind, in a program of so many steps.
func fewSteps(size int) []impl.Step {
	opnds := []impl.Opnd{variable(0), variable(1), num(0), num(1)}
	steps := []impl.Step{{Kind: impl.StepEnd}}
	for next := range size {
		to := []int{next}
		for _, a := range opnds {
			for _, b := range opnds {
				steps = append(steps,
					impl.Step{Kind: impl.StepSet, Op: impl.OpAdd, A: a, B: b, Next: to},
					impl.Step{Kind: impl.StepSet, Dst: 1, Op: impl.OpLess, A: a, B: b, Next: to})
			}
		}
		for dst := range 2 {
			steps = append(steps, impl.Step{Kind: impl.StepCopy, Dst: dst, A: variable(1), Next: to}, impl.Step{Kind: impl.StepIn, Dst: dst, Next: to})
		}
		steps = append(steps, impl.Step{Kind: impl.StepOut, A: variable(1), Next: to}, impl.Step{Kind: impl.StepTest, A: variable(1), Next: []int{next, 0}}, impl.Step{Kind: impl.StepSkip, Next: to})
	}
	return steps
}

// manyReckoners hands on small programs, many greater ones of each size, and what they are made by tidying.
func manyReckoners(yield func(p impl.Prog)) {
	both := func(p impl.Prog) {
		yield(p)
		if q := tidyByNodes(p); len(q.Steps) <= impl.ProgMax {
			yield(q)
		}
	}
	for size := 1; size <= 2; size++ {
		eachOf(fewSteps(size), make([]impl.Step, size), 0, both)
	}
	d := &dice{state: 51}
	for size := 1; size <= impl.ProgMax; size++ {
		for range 8 {
			both(d.alike(size))
			both(d.runner(size))
		}
		both(d.flow(size))
		both(d.prog(size))
		both(d.strewn(d.alike(size)))
	}
}

// noOps are numbers that are no operation.
func noOps() []int {
	list := []int{-1 << 63, -1 << 32, 1<<63 - 1, 1<<32 + impl.OpAdd, 256 + impl.OpSub, 64 + impl.OpMul}
	for op := -8; op < impl.OpAdd; op++ {
		list = append(list, op)
	}
	for op := impl.OpLess + 1; op <= 16; op++ {
		list = append(list, op)
	}
	return list
}

// noOpnds are what is no operand, of each kind.
func noOpnds() []impl.Opnd {
	list := []impl.Opnd{{Var: -1, Num: impl.ProgNum}, {Var: -1, Num: 1 << 40}, {Var: -1, Num: -1}, {Var: -1, Num: -1 << 63}}
	for _, v := range []int{impl.ProgVars, impl.ProgVars + 1, 64, 1 << 32, 1<<63 - 1, -2, -3, -1 << 63} {
		list = append(list, impl.Opnd{Var: v}, impl.Opnd{Var: v, Num: 1})
	}
	for _, v := range []int{0, 1, impl.ProgVars - 1} {
		list = append(list, impl.Opnd{Var: v, Num: 1}, impl.Opnd{Var: v, Num: -1}, impl.Opnd{Var: v, Num: v + 1}, impl.Opnd{Var: v, Num: 1 << 40})
	}
	return list
}

// wrongExprs are reckonings that are not ok, each for a reason of its own.
func wrongExprs() []impl.Expr {
	list := []impl.Expr{{}}
	for _, op := range noOps() {
		list = append(list, impl.Expr{Op: op}, impl.Expr{Op: op, A: variable(1), B: num(2)})
	}
	for _, o := range noOpnds() {
		for op := impl.OpAdd; op <= impl.OpLess; op++ {
			list = append(list, impl.Expr{Op: op, A: o, B: variable(1)}, impl.Expr{Op: op, A: num(1), B: o}, impl.Expr{Op: op, A: o, B: o})
		}
	}
	return list
}

// wrongReckoners are programs that are not ok, most of them for a reckoning.
func wrongReckoners() []impl.Prog {
	list := wrongProgs()
	for _, e := range wrongExprs() {
		list = append(list, impl.Prog{Steps: []impl.Step{
			{Kind: impl.StepSet, Op: impl.OpAdd, A: variable(0), B: variable(1), Next: []int{2}},
			{Kind: impl.StepSet, Op: e.Op, A: e.A, B: e.B, Next: []int{2}},
			{Kind: impl.StepEnd},
		}})
	}
	for _, dst := range []int{-1, impl.ProgVars, 64, 1 << 40} {
		list = append(list, impl.Prog{Steps: []impl.Step{{Kind: impl.StepSet, Dst: dst, Op: impl.OpAdd, Next: []int{0}}}})
	}
	over := longest()
	return append(list, impl.Prog{Steps: append(over.Steps, over.Steps[0])})
}
