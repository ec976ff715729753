// Package impl: what is reckoned twice is reckoned once, and no sooner than it must be.
package impl

import (
	"slices"
	"strconv"
	"strings"
)

// Limits of programs.
const (
	ProgMax  = 60
	ProgVars = 12
	ProgNum  = 65536
	ProgText = 3000
)

// Kinds of steps.
const (
	StepSet  = 1
	StepCopy = 2
	StepIn   = 3
	StepOut  = 4
	StepTest = 5
	StepSkip = 6
	StepEnd  = 7
)

// Reckonings.
const (
	OpAdd  = 1
	OpSub  = 2
	OpMul  = 3
	OpLess = 4
)

// opSigns has the sign of each reckoning, in the order of the numbers above.
const opSigns = "+-*<"

// unread is what a word becomes that says no number: it is neither a variable, nor a number, nor a place, so that no step with it fits.
const unread = -1

// Opnd is a variable, or, with Var -1, a number.
type Opnd struct {
	Var int
	Num int
}

// Step is a step of a program: what it does, and which steps may come behind it.
type Step struct {
	Kind int
	Dst  int
	Op   int
	A    Opnd
	B    Opnd
	Next []int
}

// Prog is steps; the first one is where it begins.
type Prog struct {
	Steps []Step
}

// form is a step of one kind: each kind is a type that has room for what that kind has, and for nothing else.
type form interface {
	// step is the form as a step, in new memory.
	step() Step
	// fits says whether all that the form has is there, in a program of so many steps.
	fits(size int) bool
}

type setForm struct {
	dst  int
	op   int
	a    Opnd
	b    Opnd
	next int
}

type copyForm struct {
	dst  int
	a    Opnd
	next int
}

type inForm struct {
	dst  int
	next int
}

type outForm struct {
	a    Opnd
	next int
}

type testForm struct {
	a   Opnd
	yes int
	no  int
}

type skipForm struct {
	next int
}

type endForm struct{}

func (f setForm) step() Step {
	return Step{Kind: StepSet, Dst: f.dst, Op: f.op, A: f.a, B: f.b, Next: []int{f.next}}
}

func (f copyForm) step() Step {
	return Step{Kind: StepCopy, Dst: f.dst, A: f.a, Next: []int{f.next}}
}

func (f inForm) step() Step {
	return Step{Kind: StepIn, Dst: f.dst, Next: []int{f.next}}
}

func (f outForm) step() Step {
	return Step{Kind: StepOut, A: f.a, Next: []int{f.next}}
}

func (f testForm) step() Step {
	return Step{Kind: StepTest, A: f.a, Next: []int{f.yes, f.no}}
}

func (f skipForm) step() Step {
	return Step{Kind: StepSkip, Next: []int{f.next}}
}

func (f endForm) step() Step {
	return Step{Kind: StepEnd}
}

func (f setForm) fits(size int) bool {
	return isVar(f.dst) && isOp(f.op) && isOpnd(f.a) && isOpnd(f.b) && isPlace(f.next, size)
}

func (f copyForm) fits(size int) bool {
	return isVar(f.dst) && isOpnd(f.a) && isPlace(f.next, size)
}

func (f inForm) fits(size int) bool {
	return isVar(f.dst) && isPlace(f.next, size)
}

func (f outForm) fits(size int) bool {
	return isOpnd(f.a) && isPlace(f.next, size)
}

func (f testForm) fits(size int) bool {
	return isOpnd(f.a) && isPlace(f.yes, size) && isPlace(f.no, size)
}

func (f skipForm) fits(size int) bool {
	return isPlace(f.next, size)
}

func (f endForm) fits(size int) bool {
	return true
}

func isVar(v int) bool {
	return v >= 0 && v < ProgVars
}

func isNum(n int) bool {
	return n >= 0 && n < ProgNum
}

func isOp(op int) bool {
	return op >= OpAdd && op <= OpLess
}

func isOpnd(o Opnd) bool {
	if o.Var == -1 {
		return isNum(o.Num)
	}
	return isVar(o.Var) && o.Num == 0
}

func isPlace(at int, size int) bool {
	return at >= 0 && at < size
}

// nextCount is how many places come behind a step of a kind.
func nextCount(kind int) int {
	switch kind {
	case StepTest:
		return 2
	case StepEnd:
		return 0
	}
	return 1
}

// formOf is a step as a form of its kind; false, if there is no such kind, or the step has what that kind does not have.
func formOf(s Step) (form, bool) {
	if len(s.Next) != nextCount(s.Kind) {
		return nil, false
	}
	var f form
	switch s.Kind {
	case StepSet:
		f = setForm{dst: s.Dst, op: s.Op, a: s.A, b: s.B, next: s.Next[0]}
	case StepCopy:
		f = copyForm{dst: s.Dst, a: s.A, next: s.Next[0]}
	case StepIn:
		f = inForm{dst: s.Dst, next: s.Next[0]}
	case StepOut:
		f = outForm{a: s.A, next: s.Next[0]}
	case StepTest:
		f = testForm{a: s.A, yes: s.Next[0], no: s.Next[1]}
	case StepSkip:
		f = skipForm{next: s.Next[0]}
	case StepEnd:
		f = endForm{}
	default:
		return nil, false
	}
	// A form has no room for what its kind does not have: only a step without such comes back as it was.
	return f, sameStep(f.step(), s)
}

func sameStep(s Step, t Step) bool {
	return s.Kind == t.Kind && s.Dst == t.Dst && s.Op == t.Op && s.A == t.A && s.B == t.B && slices.Equal(s.Next, t.Next)
}

// formsOf is the steps of a program as forms; false, if the program is not ok.
func formsOf(p Prog) ([]form, bool) {
	size := len(p.Steps)
	if size < 1 || size > ProgMax {
		return nil, false
	}
	forms := make([]form, 0, size)
	for _, s := range p.Steps {
		f, ok := formOf(s)
		if !ok || !f.fits(size) {
			return nil, false
		}
		forms = append(forms, f)
	}
	return forms, true
}

// ProgOk says whether a program is ok.
func ProgOk(p Prog) bool {
	_, ok := formsOf(p)
	return ok
}

// ProgWrite writes a program.
func ProgWrite(p Prog) string {
	forms, ok := formsOf(p)
	if !ok {
		return ""
	}
	var text strings.Builder
	for _, f := range forms {
		text.WriteString(strings.Join(wordsOf(f), " "))
		text.WriteByte('\n')
	}
	return text.String()
}

// wordsOf is the words of a form that fits.
func wordsOf(f form) []string {
	switch x := f.(type) {
	case setForm:
		return []string{varWord(x.dst), "=", opndWord(x.a), opSigns[x.op-1 : x.op], opndWord(x.b), strconv.Itoa(x.next)}
	case copyForm:
		return []string{varWord(x.dst), "=", opndWord(x.a), strconv.Itoa(x.next)}
	case inForm:
		return []string{varWord(x.dst), "=", "in", strconv.Itoa(x.next)}
	case outForm:
		return []string{"out", opndWord(x.a), strconv.Itoa(x.next)}
	case testForm:
		return []string{"test", opndWord(x.a), strconv.Itoa(x.yes), strconv.Itoa(x.no)}
	case skipForm:
		return []string{"skip", strconv.Itoa(x.next)}
	default:
		return []string{"end"}
	}
}

func varWord(v int) string {
	return "v" + strconv.Itoa(v)
}

func opndWord(o Opnd) string {
	if o.Var == -1 {
		return strconv.Itoa(o.Num)
	}
	return varWord(o.Var)
}

// ProgRead reads a program.
func ProgRead(text string) (Prog, bool) {
	if len(text) > ProgText {
		return Prog{}, false
	}
	var p Prog
	for _, line := range linesOf(text) {
		p.Steps = append(p.Steps, stepOf(line))
	}
	return readBack(p, text)
}

// readBack is a program that was read from a text line by line; false, if the text is not just what it is written as.
func readBack(p Prog, text string) (Prog, bool) {
	// Reading is lenient with blanks, zeros, signs and what stands behind: all that shows when the program is written.
	if !ProgOk(p) || ProgWrite(p) != text {
		return Prog{}, false
	}
	return p, true
}

// linesOf is the lines of a text that a newline ends.
func linesOf(text string) []string {
	c := &cursor{rest: text}
	var lines []string
	for c.nextLine() {
		lines = append(lines, c.line)
	}
	return lines
}

// stepOf reads a line as a step; of words that make no step it is one that fits nowhere, or is written otherwise.
func stepOf(line string) Step {
	c := &cursor{line: line}
	return readForm(c.word).step()
}

// cursor goes through a text line by line, and through a line word by word.
type cursor struct {
	line string
	rest string
}

// nextLine goes on to the next line that a newline ends; false, if there is none.
func (c *cursor) nextLine() bool {
	line, rest, found := strings.Cut(c.rest, "\n")
	c.line, c.rest = line, rest
	return found
}

// word is the next word of the line, empty behind the last.
func (c *cursor) word() string {
	word, rest, _ := strings.Cut(c.line, " ")
	c.line = rest
	return word
}

// readForm reads a line's words; of words that make no step it is a form that fits nowhere, or is written otherwise.
func readForm(word func() string) form {
	first := word()
	switch first {
	case "end":
		return endForm{}
	case "skip":
		return skipForm{next: readNum(word())}
	case "out":
		return outForm{a: readOpnd(word()), next: readNum(word())}
	case "test":
		return testForm{a: readOpnd(word()), yes: readNum(word()), no: readNum(word())}
	}
	return readChange(readVar(first), word)
}

// readChange reads what a variable becomes.
func readChange(dst int, word func() string) form {
	word() // the `=`: a word that is none shows when the program is written
	first := word()
	if first == "in" {
		return inForm{dst: dst, next: readNum(word())}
	}
	a, second := readOpnd(first), word()
	if op := readOp(second); isOp(op) {
		return setForm{dst: dst, op: op, a: a, b: readOpnd(word()), next: readNum(word())}
	}
	return copyForm{dst: dst, a: a, next: readNum(second)}
}

func readNum(word string) int {
	n, err := strconv.Atoi(word)
	if err != nil {
		return unread
	}
	return n
}

func readVar(word string) int {
	digits, found := strings.CutPrefix(word, "v")
	if !found {
		return unread
	}
	return readNum(digits)
}

func readOpnd(word string) Opnd {
	if v := readVar(word); isVar(v) {
		return Opnd{Var: v}
	}
	return Opnd{Var: -1, Num: readNum(word)}
}

// readOp is the reckoning with that sign, 0 if there is none.
func readOp(word string) int {
	if len(word) != 1 {
		return 0
	}
	return strings.Index(opSigns, word) + 1
}
