package tests

import (
	"regexp"
	"slices"
	"strconv"
	"strings"

	"loop.example/causey/impl"
)

// shape is a row of the document's table of steps: which parts a Kind has.
type shape struct {
	dst, op, a, b bool
	next          int
}

func shapeOf(kind int) (shape, bool) {
	switch kind {
	case impl.StepSet:
		return shape{dst: true, op: true, a: true, b: true, next: 1}, true
	case impl.StepCopy:
		return shape{dst: true, a: true, next: 1}, true
	case impl.StepIn:
		return shape{dst: true, next: 1}, true
	case impl.StepOut:
		return shape{a: true, next: 1}, true
	case impl.StepTest:
		return shape{a: true, next: 2}, true
	case impl.StepSkip:
		return shape{next: 1}, true
	case impl.StepEnd:
		return shape{}, true
	}
	return shape{}, false
}

func opndByTable(has bool, o impl.Opnd) bool {
	if !has {
		return o == impl.Opnd{}
	}
	if o.Var == -1 {
		return 0 <= o.Num && o.Num <= 65535
	}
	return 0 <= o.Var && o.Var <= 11 && o.Num == 0
}

// okByTable is ProgOk by the document's table, without any of the program's own means.
func okByTable(p impl.Prog) bool {
	for _, s := range p.Steps {
		h, ok := shapeOf(s.Kind)
		if !ok || len(s.Next) != h.next || !opndByTable(h.a, s.A) || !opndByTable(h.b, s.B) {
			return false
		}
		if h.dst && (s.Dst < 0 || s.Dst > 11) || !h.dst && s.Dst != 0 {
			return false
		}
		if h.op && (s.Op < 1 || s.Op > 4) || !h.op && s.Op != 0 {
			return false
		}
		for _, n := range s.Next {
			if n < 0 || n >= len(p.Steps) {
				return false
			}
		}
	}
	return len(p.Steps) >= 1 && len(p.Steps) <= 60
}

const (
	varForm  = `(v[0-9]|v1[01])`
	numForm  = `(0|[1-9][0-9]*)`
	opndForm = `(v[0-9]|v1[01]|0|[1-9][0-9]*)`
)

// lineForms has, at the place Kind-1, how a step of that Kind is written.
var lineForms = []*regexp.Regexp{
	regexp.MustCompile(`^` + varForm + ` = ` + opndForm + ` ([-+*<]) ` + opndForm + ` ` + numForm + `$`),
	regexp.MustCompile(`^` + varForm + ` = ` + opndForm + ` ` + numForm + `$`),
	regexp.MustCompile(`^` + varForm + ` = in ` + numForm + `$`),
	regexp.MustCompile(`^out ` + opndForm + ` ` + numForm + `$`),
	regexp.MustCompile(`^test ` + opndForm + ` ` + numForm + ` ` + numForm + `$`),
	regexp.MustCompile(`^skip ` + numForm + `$`),
	regexp.MustCompile(`^end$`),
}

func numByForm(word string) int {
	n, err := strconv.Atoi(word)
	if err != nil {
		return 1 << 40 // too great for any limit
	}
	return n
}

func opndByForm(word string) impl.Opnd {
	if word[0] == 'v' {
		return impl.Opnd{Var: numByForm(word[1:])}
	}
	return impl.Opnd{Var: -1, Num: numByForm(word)}
}

func stepByForm(line string) (impl.Step, bool) {
	for i, f := range lineForms {
		words := f.FindStringSubmatch(line)
		if words == nil {
			continue
		}
		words = words[1:]
		s := impl.Step{Kind: i + 1}
		h, _ := shapeOf(s.Kind)
		take := func() string {
			w := words[0]
			words = words[1:]
			return w
		}
		if h.dst {
			s.Dst = numByForm(take()[1:])
		}
		if h.a {
			s.A = opndByForm(take())
		}
		if h.op {
			s.Op = strings.Index(" +-*<", take())
		}
		if h.b {
			s.B = opndByForm(take())
		}
		for range h.next {
			s.Next = append(s.Next, numByForm(take()))
		}
		return s, true
	}
	return impl.Step{}, false
}

// readByForms is ProgRead by line forms, without any of the program's own means.
func readByForms(text string) (impl.Prog, bool) {
	var p impl.Prog
	if len(text) > 3000 || !strings.HasSuffix(text, "\n") {
		return impl.Prog{}, false
	}
	for _, line := range strings.Split(strings.TrimSuffix(text, "\n"), "\n") {
		s, ok := stepByForm(line)
		if !ok {
			return impl.Prog{}, false
		}
		p.Steps = append(p.Steps, s)
	}
	if !okByTable(p) {
		return impl.Prog{}, false
	}
	return p, true
}

func sameStep(s, t impl.Step) bool {
	return s.Kind == t.Kind && s.Dst == t.Dst && s.Op == t.Op && s.A == t.A && s.B == t.B && slices.Equal(s.Next, t.Next)
}

func sameProg(p, q impl.Prog) bool {
	return slices.EqualFunc(p.Steps, q.Steps, sameStep)
}

func cloneProg(p impl.Prog) impl.Prog {
	q := impl.Prog{Steps: slices.Clone(p.Steps)}
	for i := range q.Steps {
		q.Steps[i].Next = slices.Clone(q.Steps[i].Next)
	}
	return q
}

// dice is a row of numbers that is the same in each run.
type dice struct{ state uint64 }

func (d *dice) roll(sides int) int {
	d.state = d.state*6364136223846793005 + 1442695040888963407
	return int(d.state>>33) % sides
}

func (d *dice) opnd() impl.Opnd {
	switch d.roll(4) {
	case 0:
		return impl.Opnd{Var: -1, Num: []int{0, 1, 9, 10, 99, 65535}[d.roll(6)]}
	case 1:
		return impl.Opnd{Var: -1, Num: d.roll(65536)}
	}
	return impl.Opnd{Var: d.roll(12)}
}

// step is a step that is ok in a program of so many steps.
func (d *dice) step(kind, size int) impl.Step {
	h, _ := shapeOf(kind)
	s := impl.Step{Kind: kind}
	if h.dst {
		s.Dst = d.roll(12)
	}
	if h.op {
		s.Op = 1 + d.roll(4)
	}
	if h.a {
		s.A = d.opnd()
	}
	if h.b {
		s.B = d.opnd()
	}
	for range h.next {
		s.Next = append(s.Next, d.roll(size))
	}
	return s
}

func (d *dice) prog(size int) impl.Prog {
	var p impl.Prog
	for range size {
		p.Steps = append(p.Steps, d.step(1+d.roll(7), size))
	}
	return p
}

// longest is a program with the longest text that there can be: each line has its longest words.
func longest() impl.Prog {
	var p impl.Prog
	top := impl.Opnd{Var: -1, Num: impl.ProgNum - 1}
	for range impl.ProgMax {
		p.Steps = append(p.Steps, impl.Step{Kind: impl.StepSet, Dst: impl.ProgVars - 1, Op: impl.OpLess, A: top, B: top, Next: []int{impl.ProgMax - 1}})
	}
	return p
}

// everyText has each Kind of step and each Op.
const everyText = "v0 = in 1\nv11 = v0 + 65535 2\nv1 = 0 - v11 3\nv2 = v1 * v1 4\nv3 = 10 < 9 5\nv4 = v3 6\nv10 = 7 7\nout v4 8\nout 65535 9\ntest v10 10 11\ntest 0 0 12\nskip 9\nend\n"
