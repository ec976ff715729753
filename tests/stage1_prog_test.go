package tests

import (
	"math"
	"slices"
	"strings"
	"testing"

	"loop.example/causey/impl"
)

func num(n int) impl.Opnd { return impl.Opnd{Var: -1, Num: n} }

func variable(v int) impl.Opnd { return impl.Opnd{Var: v} }

// skips is a program of so many steps that all lead to the last one, which is an end.
func skips(size int) impl.Prog {
	var p impl.Prog
	for range size - 1 {
		p.Steps = append(p.Steps, impl.Step{Kind: impl.StepSkip, Next: []int{size - 1}})
	}
	p.Steps = append(p.Steps, impl.Step{Kind: impl.StepEnd})
	return p
}

func checkRefused(t *testing.T, p impl.Prog, why string) {
	t.Helper()
	if impl.ProgOk(p) {
		t.Errorf("%s: ok", why)
	}
	if text := impl.ProgWrite(p); text != "" {
		t.Errorf("%s: written as %q", why, text)
	}
}

func checkBack(t *testing.T, p impl.Prog) {
	t.Helper()
	text := impl.ProgWrite(p)
	if !impl.ProgOk(p) || text == "" {
		t.Fatalf("not ok: %v", p)
	}
	q, ok := impl.ProgRead(text)
	if !ok || !sameProg(p, q) {
		t.Fatalf("%q read back as %v, %v", text, q, ok)
	}
	if strings.Count(text, "\n") != len(p.Steps) || !strings.HasSuffix(text, "\n") {
		t.Fatalf("%d steps are the text %q", len(p.Steps), text)
	}
	if len(text) > impl.ProgText {
		t.Fatalf("a text of %d bytes", len(text))
	}
}

func checkRead(t *testing.T, text string) {
	t.Helper()
	p, ok := impl.ProgRead(text)
	q, want := readByForms(text)
	if ok != want || !sameProg(p, q) {
		t.Errorf("%q: read as %v, %v, not %v, %v", text, p, ok, q, want)
	}
	if ok && impl.ProgWrite(p) != text {
		t.Errorf("%q: written as %q", text, impl.ProgWrite(p))
	}
}

func TestLimitsAndCodes(t *testing.T) {
	got := []int{impl.ProgMax, impl.ProgVars, impl.ProgNum, impl.ProgText, impl.StepSet, impl.StepCopy, impl.StepIn, impl.StepOut, impl.StepTest, impl.StepSkip, impl.StepEnd, impl.OpAdd, impl.OpSub, impl.OpMul, impl.OpLess}
	if want := []int{60, 12, 65536, 3000, 1, 2, 3, 4, 5, 6, 7, 1, 2, 3, 4}; !slices.Equal(got, want) {
		t.Errorf("%v, not %v", got, want)
	}
}

// Promise 1, of each Kind and each Op, by steps that are told here one by one.
func TestEachStepIsWrittenAndReadBack(t *testing.T) {
	want := impl.Prog{Steps: []impl.Step{
		{Kind: impl.StepIn, Dst: 0, Next: []int{1}},
		{Kind: impl.StepSet, Dst: 11, Op: impl.OpAdd, A: variable(0), B: num(65535), Next: []int{2}},
		{Kind: impl.StepSet, Dst: 1, Op: impl.OpSub, A: num(0), B: variable(11), Next: []int{3}},
		{Kind: impl.StepSet, Dst: 2, Op: impl.OpMul, A: variable(1), B: variable(1), Next: []int{4}},
		{Kind: impl.StepSet, Dst: 3, Op: impl.OpLess, A: num(10), B: num(9), Next: []int{5}},
		{Kind: impl.StepCopy, Dst: 4, A: variable(3), Next: []int{6}},
		{Kind: impl.StepCopy, Dst: 10, A: num(7), Next: []int{7}},
		{Kind: impl.StepOut, A: variable(4), Next: []int{8}},
		{Kind: impl.StepOut, A: num(65535), Next: []int{9}},
		{Kind: impl.StepTest, A: variable(10), Next: []int{10, 11}},
		{Kind: impl.StepTest, A: num(0), Next: []int{0, 12}},
		{Kind: impl.StepSkip, Next: []int{9}},
		{Kind: impl.StepEnd},
	}}
	if text := impl.ProgWrite(want); text != everyText {
		t.Errorf("written as %q", text)
	}
	if p, ok := impl.ProgRead(everyText); !ok || !sameProg(p, want) {
		t.Errorf("read as %v, %v", p, ok)
	}
	checkBack(t, want)
	want.Steps[12].Next = []int{}
	checkBack(t, want)
}

// Promises 1 and 3, of programs of each size.
func TestProgramsAreReadBack(t *testing.T) {
	d := &dice{state: 1}
	for size := 1; size <= impl.ProgMax; size++ {
		checkBack(t, skips(size))
		for range 40 {
			checkBack(t, d.prog(size))
		}
	}
}

// Promise 2: programs that are not the same have texts that are not the same.
func TestProgramsHaveTextsOfTheirOwn(t *testing.T) {
	d := &dice{state: 2}
	texts := map[string]impl.Prog{}
	for range 20000 {
		p := d.prog(1 + d.roll(2))
		text := impl.ProgWrite(p)
		if q, ok := texts[text]; ok && !sameProg(p, q) {
			t.Fatalf("%v and %v are both %q", p, q, text)
		}
		texts[text] = p
	}
}

// Promise 3: the longest text that there can be has room, and is read.
func TestLongestTextHasRoom(t *testing.T) {
	p := longest()
	checkBack(t, p)
	text := impl.ProgWrite(p)
	if len(text) != 60*len("v11 = 65535 < 65535 59\n") {
		t.Errorf("a text of %d bytes", len(text))
	}
	d := &dice{state: 3}
	for range 500 {
		if n := len(impl.ProgWrite(d.prog(impl.ProgMax))); n > len(text) {
			t.Errorf("one of %d bytes is longer", n)
		}
	}
}

func TestSizesAtTheLimits(t *testing.T) {
	checkRefused(t, impl.Prog{}, "no steps")
	checkRefused(t, impl.Prog{Steps: []impl.Step{}}, "an empty list")
	checkBack(t, skips(1))
	checkBack(t, skips(impl.ProgMax))
	checkRefused(t, skips(impl.ProgMax+1), "a step more")
	checkRefused(t, skips(5000), "many steps")
	most := strings.Repeat("end\n", impl.ProgMax)
	checkRead(t, most)
	if p, ok := impl.ProgRead(most); !ok || len(p.Steps) != impl.ProgMax {
		t.Error("ProgMax lines are not read")
	}
	checkRead(t, most+"end\n")
	if p, ok := impl.ProgRead(most + "end\n"); ok || len(p.Steps) != 0 {
		t.Error("a line more is read")
	}
}

func TestTextsAtTheLimit(t *testing.T) {
	for _, size := range []int{impl.ProgText - 4, impl.ProgText, impl.ProgText + 4, 40000} {
		checkRead(t, strings.Repeat("end\n", size/4))
	}
	for _, size := range []int{impl.ProgText - 1, impl.ProgText, impl.ProgText + 1, 1 << 20} {
		for _, fill := range []string{" ", "\n", "0", "v", "\x00", "\xff"} {
			for _, text := range []string{strings.Repeat(fill, size-4) + "end\n", "end" + strings.Repeat(fill, size-4) + "\n", strings.Repeat(fill, size), "skip " + strings.Repeat(fill, size-6) + "0\n"} {
				if p, ok := impl.ProgRead(text); ok || len(p.Steps) != 0 {
					t.Errorf("%d bytes, filled with %q, are read", len(text), fill)
				}
			}
		}
	}
}

// Every part of one step, ok or not, in each Kind: only what the Kind has may be there.
func TestStepsHaveJustWhatTheirKindSays(t *testing.T) {
	kinds := []int{math.MinInt, -1, 0, 1, 2, 3, 4, 5, 6, 7, 8, 257, math.MaxInt}
	dsts := []int{math.MinInt, -1, 0, 1, 11, 12, math.MaxInt}
	ops := []int{math.MinInt, -1, 0, 1, 2, 3, 4, 5, math.MaxInt}
	opnds := []impl.Opnd{{}, variable(11), variable(12), variable(-2), num(0), num(65535), num(65536), num(-1), {Var: 1, Num: 1}, {Var: 0, Num: -1}}
	nexts := [][]int{nil, {}, {0}, {1}, {-1}, {0, 0}, {0, 1}, {-1, 0}, {0, 0, 0}, {math.MinInt}, {math.MaxInt, 0}}
	seen := 0
	for _, kind := range kinds {
		for _, dst := range dsts {
			for _, op := range ops {
				for _, a := range opnds {
					for _, b := range opnds {
						for _, next := range nexts {
							p := impl.Prog{Steps: []impl.Step{{Kind: kind, Dst: dst, Op: op, A: a, B: b, Next: next}}}
							want := okByTable(p)
							if impl.ProgOk(p) != want || (impl.ProgWrite(p) != "") != want {
								t.Fatalf("%v: ok is %v", p, !want)
							}
							if want {
								seen++
								checkBack(t, p)
							}
						}
					}
				}
			}
		}
	}
	// Of 3 variables and 4 operands: 3*4*4*4 sets, 3*4 copies, 3 ins, 4 outs, 4 tests, a skip, and an end with both empty lists.
	if want := 192 + 12 + 3 + 4 + 4 + 1 + 2; seen != want {
		t.Errorf("%d steps are ok, not %d", seen, want)
	}
}

func TestPartsAtTheLimits(t *testing.T) {
	for _, kind := range []int{impl.StepSet, impl.StepCopy, impl.StepIn} {
		for _, dst := range []int{0, impl.ProgVars - 1} {
			s := (&dice{state: 4}).step(kind, 1)
			s.Dst = dst
			checkBack(t, impl.Prog{Steps: []impl.Step{s}})
		}
		for _, dst := range []int{-1, impl.ProgVars} {
			s := (&dice{state: 4}).step(kind, 1)
			s.Dst = dst
			checkRefused(t, impl.Prog{Steps: []impl.Step{s}}, "no variable")
		}
	}
	for _, o := range []impl.Opnd{variable(0), variable(impl.ProgVars - 1), num(0), num(impl.ProgNum - 1)} {
		checkBack(t, impl.Prog{Steps: []impl.Step{{Kind: impl.StepOut, A: o, Next: []int{0}}}})
	}
	for _, o := range []impl.Opnd{variable(impl.ProgVars), variable(-2), num(impl.ProgNum), num(-1), {Var: 3, Num: 3}, {Var: -2, Num: 3}} {
		checkRefused(t, impl.Prog{Steps: []impl.Step{{Kind: impl.StepOut, A: o, Next: []int{0}}}}, "no operand")
	}
}

// One wrong step anywhere makes the whole program wrong; ways lead to the first and the last step, and no farther.
func TestOneWrongStepAmongMany(t *testing.T) {
	d := &dice{state: 5}
	for _, size := range []int{1, 2, 7, impl.ProgMax} {
		for at := range size {
			for _, to := range []int{0, size - 1} {
				p := d.prog(size)
				p.Steps[at] = impl.Step{Kind: impl.StepTest, A: num(1), Next: []int{to, size - 1 - to}}
				checkBack(t, p)
			}
			for _, to := range []int{-1, size, math.MaxInt, math.MinInt} {
				for _, next := range [][]int{{to, 0}, {0, to}} {
					p := d.prog(size)
					p.Steps[at] = impl.Step{Kind: impl.StepTest, A: num(1), Next: next}
					checkRefused(t, p, "a place that is none")
				}
			}
			p := d.prog(size)
			p.Steps[at] = impl.Step{}
			checkRefused(t, p, "a step that is nothing")
		}
	}
}

func TestTextsThatAreNone(t *testing.T) {
	for _, text := range []string{
		"", "\n", "\n\n", " ", "end", "end\n\n", "\nend\n", "end\r\n", "end \n", " end\n", "\tend\n", "End\n", "END\n", "end\nend", "end\n\nend\n", "end end\n", "end 0\n", "ende\n", "\xef\xbb\xbfend\n", "end\x00\n", "end\n\x00", "end;\n",
		"skip\n", "skip \n", "skip  0\n", "skip 0 \n", "skip\t0\n", "skip 00\n", "skip +0\n", "skip -0\n", "skip -1\n", "skip 1\n", "skip v0\n", "skip 0 0\n", "skip 0x0\n", "skip 0_0\n", "skip 1e0\n", "skip 0.0\n", "skip \xd9\xa0\n", "skip 18446744073709551616\n", "skip 99999999999999999999999999\n", "skip0\n", "jump 0\n",
		"out\n", "out 0\n", "out v0\n", "out v0 v0\n", "out 0 0 0\n", "out v12 0\n", "out v00 0\n", "out v01 0\n", "out v 0\n", "out V1 0\n", "out vv1 0\n", "out v+1 0\n", "out v-1 0\n", "out v1v 0\n", "out 1v 0\n", "out 65536 0\n", "out -1 0\n", "out -0 0\n", "out +1 0\n", "out 01 0\n", "out in 0\n", "out = 0\n", "out + 0\n", "out  0\n", "out out 0\n",
		"test\n", "test v0\n", "test v0 0\n", "test v0 0 0 0\n", "test v0 0 1\n", "test v0 1 0\n", "test 0 00 0\n", "test v0  0 0\n", "test in 0 0\n",
		"v0 = in\n", "v0 = in in\n", "v0 = in 0 0\n", "v0 = in v0\n", "v0 in 0\n", "v0 == in 0\n", "v0 =in 0\n", "v0= in 0\n", "v0 = IN 0\n", "v0  = in 0\n", "v0 =  in 0\n", "v12 = in 0\n", "v = in 0\n", "0 = in 0\n", "v-1 = in 0\n", "= in 0\n", "v0 : in 0\n",
		"v0\n", "v0 =\n", "v0 = \n", "v0 = 0\n", "v0 = v0\n", "v0 = 0 v0\n", "v0 = 0 1\n", "v0 = 0 0 0\n", "v0 = v12 0\n", "v0 = 65536 0\n", "v0 = 00 0\n", "v0 = - 0\n", "v0 = = 0\n",
		"v0 = 0 +\n", "v0 = 0 + 0\n", "v0 = 0 + 0 1\n", "v0 = 0 + 0 0 0\n", "v0 = 0 + + 0\n", "v0 = 0 / 0 0\n", "v0 = 0 > 0 0\n", "v0 = 0 <= 0 0\n", "v0 = 0 +- 0 0\n", "v0 = 0 0 0 0\n", "v0 = 0+ 0 0\n", "v0 = 0 +0 0\n", "v0 = 0+0 0\n", "v0 = 0  + 0 0\n", "v0 = 0 +  0 0\n", "v0 = in + 0 0\n", "v0 = 0 + in 0\n", "v0 = v12 * 0 0\n", "v0 = 0 * v12 0\n", "v0 = 0 * 65536 0\n", "v00 = 0 * 0 0\n", "v0 = 0 * 0 00\n", "v0 = 0 \xe2\x88\x92 0 0\n",
	} {
		if p, ok := impl.ProgRead(text); ok || len(p.Steps) != 0 {
			t.Errorf("%q is read as %v, %v", text, p, ok)
		}
		if _, ok := readByForms(text); ok {
			t.Errorf("%q is a text by its form", text)
		}
	}
}

// Promise 2: no text near to a program's text is read as a program that is written otherwise.
func TestTextsOneByteOff(t *testing.T) {
	for at := 0; at <= len(everyText); at++ {
		ahead, behind := everyText[:at], everyText[at:]
		checkRead(t, ahead)
		checkRead(t, behind)
		for b := range 256 {
			between := string([]byte{byte(b)})
			checkRead(t, ahead+between+behind)
			if behind != "" {
				checkRead(t, ahead+between+behind[1:])
			}
		}
		if behind != "" {
			checkRead(t, ahead+behind[1:])
			checkRead(t, ahead+behind[:1]+behind)
		}
	}
}

// Promise 2: of all short rows of such words just those are read that are a step.
func TestRowsOfWords(t *testing.T) {
	words := []string{"", "v0", "v11", "v12", "v01", "v", "=", "+", "<", "in", "out", "test", "skip", "end", "0", "1", "00", "-1", "65535", "65536"}
	var rows func(line string, left int)
	rows = func(line string, left int) {
		checkRead(t, line+"\n")
		if left == 0 {
			return
		}
		for _, w := range words {
			rows(line+" "+w, left-1)
		}
	}
	for _, first := range words {
		rows(first, 3)
	}
	rows("v0 = v1", 3)
	rows("v0 = 1 -", 3)
}

// Promise 2, of steps that are written together: lines are cut, doubled and turned about.
func TestTextsWithLinesMoved(t *testing.T) {
	lines := strings.SplitAfter(everyText, "\n")
	for i := range lines {
		checkRead(t, strings.Join(slices.Delete(slices.Clone(lines), i, i+1), ""))
		for j := range lines {
			checkRead(t, strings.Join(slices.Insert(slices.Clone(lines), i, lines[j]), ""))
			moved := slices.Clone(lines)
			moved[i], moved[j] = moved[j], moved[i]
			checkRead(t, strings.Join(moved, ""))
		}
	}
}

func TestAnyBytes(t *testing.T) {
	d := &dice{state: 6}
	for range 20000 {
		text := make([]byte, d.roll(40))
		for i := range text {
			text[i] = byte(d.roll(256))
		}
		checkRead(t, string(text))
	}
}
