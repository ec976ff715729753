package tests

import (
	"slices"
	"strings"
	"testing"

	"loop.example/causey/impl"
)

// Ways that never end: the greatest that fits is asked for, a smaller one fits besides.
func TestWhereItIsSafeOnWaysThatNeverEnd(t *testing.T) {
	for _, c := range []safeCase{
		// One step whose way leads to itself: idle, reckoning, changing its own operand, changing an operand alone.
		{"skip 0\n", "v0 + v1", "1 0 1 1 0 1"},
		{"v2 = v0 + v1 0\n", "v0 + v1", "1 0 1 1 1 1"},
		{"v0 = v0 + v1 0\n", "v0 + v1", "1 0 1 1 1 1"},
		{"v0 = in 0\n", "v0 + v1", "0 0 0 0 0 1"},
		{"test v0 0 0\n", "v0 + v1", "1 0 1 1 0 1"},
		// The same behind a first step.
		{"skip 1\nskip 1\n", "v0 + v1", "11 00 10 11 00 11"},
		{"skip 1\nv2 = v0 + v1 1\n", "v0 + v1", "11 00 10 10 10 00"},
		{"v2 = v0 + v1 1\nskip 1\n", "v0 + v1", "11 01 10 10 10 11"},
		{"v2 = v0 + v1 1\nv2 = v0 + v1 1\n", "v0 + v1", "11 01 10 10 10 00"},
		{"skip 1\nv0 = v0 + v1 1\n", "v0 + v1", "11 00 11 11 01 11"},
		{"v2 = v0 + v1 1\nv1 = in 1\n", "v0 + v1", "10 00 10 10 10 11"},
		// It may go round as long as it likes ahead of what reckons it, or ahead of an end.
		{"skip 1\ntest v2 1 2\nv3 = v0 + v1 3\nend\n", "v0 + v1", "1110 0001 1000 1110 0010 1111"},
		{"skip 1\ntest v2 2 1\nend\n", "v0 + v1", "000 000 000 000 000 111"},
		{"v3 = v0 + v1 1\ntest v2 1 2\nv3 = v0 + v1 3\nend\n", "v0 + v1", "1110 0111 1000 1000 1000 0011"},
		// Round by two steps: none reckons; one reckons; one changes; one reckons, the other changes.
		{"skip 1\nskip 2\nout v0 1\n", "v0 + v1", "111 000 100 111 000 111"},
		{"skip 1\nskip 2\nv2 = v0 + v1 1\n", "v0 + v1", "111 000 100 100 100 000"},
		{"skip 1\nskip 2\nv0 = in 1\n", "v0 + v1", "000 000 000 000 000 111"},
		{"v2 = v0 + v1 1\nskip 2\nv0 = in 1\n", "v0 + v1", "100 000 100 100 100 111"},
		{"skip 1\nv0 = in 2\nv2 = v0 + v1 1\n", "v0 + v1", "001 000 001 001 001 111"},
		{"skip 1\nv2 = v0 + v1 2\nv0 = in 1\n", "v0 + v1", "110 001 110 110 010 111"},
		// Round without a head: both are come to from the first step, and lead to each other.
		{"test v2 1 2\nskip 2\nskip 1\n", "v0 + v1", "111 000 100 111 000 111"},
		{"test v2 1 2\nv2 = v0 + v1 2\nskip 1\n", "v0 + v1", "111 000 100 100 100 000"},
		{"test v2 1 2\nv2 = v0 + v1 2\nv0 = in 1\n", "v0 + v1", "010 000 010 010 010 111"},
		// A way back to the first step, past what reckons it.
		{"test v2 0 1\nv3 = v0 + v1 0\n", "v0 + v1", "11 00 10 11 01 11"},
	} {
		checkSafe(t, c)
	}
}

func TestWhereItIsSafeAtTheEdges(t *testing.T) {
	for _, c := range []safeCase{
		// An end has nothing behind: it is so of each of nothing, and yet it never reckons.
		{"end\n", "v0 + v1", "0 0 0 0 0 1"},
		{"end\n", "3 + 4", "0 0 0 0 0 1"},
		{"skip 1\nend\n", "v0 + v1", "00 00 00 00 00 11"},
		{"v2 = v0 + v1 1\nend\n", "v0 + v1", "10 01 10 10 10 11"},
		// The first step, with a way back to it: nothing was reckoned ahead of it all the same.
		{"v2 = v0 + v1 1\ntest v2 0 2\nend\n", "v0 + v1", "100 011 100 100 100 111"},
		{"skip 1\nv2 = v0 + v1 2\ntest v2 0 3\nend\n", "v0 + v1", "1100 0011 1000 1100 0100 1111"},
		{"v2 = v0 + v1 0\nend\n", "v0 + v1", "10 00 10 10 10 10"},
		{"skip 1\nv2 = v0 + v1 0\n", "v0 + v1", "11 00 10 11 01 11"},
		{"v2 = v0 + v1 1\nskip 0\n", "v0 + v1", "11 01 10 10 10 11"},
		// Its own operand: it reckons it, and does not keep it; what comes behind reckons anew.
		{"v0 = v0 + v1 1\nend\n", "v0 + v1", "10 00 10 10 10 11"},
		{"v0 = v0 + v1 1\nv2 = v0 + v1 2\nend\n", "v0 + v1", "110 001 110 110 110 111"},
		{"v2 = v0 + v1 1\nv1 = v0 + v1 2\nskip 3\nv1 = v0 + v1 4\nend\n", "v0 + v1", "11110 01000 10100 10110 10010 01111"},
		{"skip 1\nv5 = v5 * v5 2\nv5 = v5 * v5 3\nend\n", "v5 * v5", "1110 0000 1010 1110 0110 1111"},
		{"v5 = 1 - v5 0\n", "1 - v5", "1 0 1 1 1 1"},
		{"skip 1\nv0 = v0 + v1 2\ntest v0 1 3\nend\n", "v0 + v1", "1100 0000 1100 1100 0100 1111"},
		// Who changes an operand by another reckoning.
		{"v0 = v0 - v1 1\nv2 = v0 + v1 2\nend\n", "v0 + v1", "010 001 010 010 010 111"},
		{"v2 = v0 + v1 1\nv0 = v1 2\nv2 = v0 + v1 3\nend\n", "v0 + v1", "1010 0101 1010 1010 1010 1111"},
		// A choice whose both ways are one.
		{"test v0 1 1\nv2 = v0 + v1 2\nend\n", "v0 + v1", "110 001 100 110 010 111"},
		{"v2 = v0 + v1 1\ntest v0 2 2\nv3 = v0 + v1 3\nend\n", "v0 + v1", "1110 0111 1000 1000 1000 0011"},
		{"skip 1\ntest v0 1 1\n", "v0 + v1", "11 00 10 11 00 11"},
		// Steps that cannot be come to: nothing is so of them, and they are ahead of none.
		{"skip 2\nv0 = in 2\nv2 = v0 + v1 3\nend\nv3 = v0 + v1 2\n", "v0 + v1", "10100 00010 10000 10100 00100 10110"},
		{"v2 = v0 + v1 2\nv0 = in 2\nv3 = v0 + v1 3\nend\n", "v0 + v1", "1010 0011 1000 1000 1000 0011"},
		{"end\nv2 = v0 + v1 1\nskip 2\nend\n", "v0 + v1", "0000 0000 0000 0000 0000 1000"},
		{"v2 = v0 + v1 0\nv3 = v0 + v1 0\nskip 1\n", "v0 + v1", "100 000 100 100 100 100"},
		{"skip 1\nend\nskip 1\ntest v0 2 0\n", "v0 + v1", "0000 0000 0000 0000 0000 1100"},
		// Numbers alone are always kept.
		{"v2 = 3 + 4 1\nv2 = in 2\nv0 = 3 + 4 3\nend\n", "3 + 4", "1110 0111 1000 1000 1000 0011"},
		{"v3 = in 1\nv4 = in 2\nv3 = 3 + 4 3\nend\n", "3 + 4", "1110 0001 1000 1110 0010 1111"},
		{"v3 = in 1\nv4 = in 2\nv3 = 3 + 4 3\nend\n", "v3 + v4", "0000 0000 0000 0000 0000 1111"},
		{"v3 = 0 * 0 0\n", "0 * 0", "1 0 1 1 1 1"},
		// One operand is a number with the digits of a variable that changes.
		{"v1 = in 1\nv2 = v0 + 1 2\nend\n", "v0 + 1", "110 001 100 110 010 111"},
		{"v0 = in 1\nv2 = v0 + 1 2\nend\n", "v0 + 1", "010 001 010 010 010 111"},
		// Turned about, or by another operation, it is another reckoning.
		{"v2 = v1 + v0 1\nend\n", "v0 + v1", "00 00 00 00 00 11"},
		{"v2 = v0 * v1 1\nv2 = v0 + v1 2\nend\n", "v0 + v1", "110 001 100 110 010 111"},
		// No step reckons it: it is so of ways that never end alone.
		{"test v2 1 2\nend\nskip 2\n", "v0 + v1", "001 000 001 001 000 111"},
		{"test v2 1 2\nend\nv2 = in 2\n", "v8 < v9", "001 000 001 001 000 111"},
		{"v0 = in 1\nskip 1\n", "v0 + v1", "01 00 01 01 00 11"},
	} {
		checkSafe(t, c)
	}
}

// chained is a program whose steps lead each to the next one, the last being an end; a letter tells what each of the others does: r reckons, o reckons and changes its operand, c changes an operand, s does nothing.
func chained(letters string) impl.Prog {
	var p impl.Prog
	e := movables()[0]
	for at, letter := range letters {
		s := impl.Step{Kind: impl.StepSkip}
		switch letter {
		case 'r':
			s = impl.Step{Kind: impl.StepSet, Dst: idleVar, Op: e.Op, A: e.A, B: e.B}
		case 'o':
			s = impl.Step{Kind: impl.StepSet, Dst: e.B.Var, Op: e.Op, A: e.A, B: e.B}
		case 'c':
			s = impl.Step{Kind: impl.StepIn, Dst: e.A.Var}
		}
		s.Next = []int{at + 1}
		p.Steps = append(p.Steps, s)
	}
	p.Steps = append(p.Steps, impl.Step{Kind: impl.StepEnd})
	return p
}

// safeByLetters is what is to be told of a chain: each step looks at the letters ahead and behind.
func safeByLetters(letters string) safeTold {
	size := len(letters) + 1
	s := safeTold{down: make([]bool, size), up: make([]bool, size), early: make([]bool, size), delay: make([]bool, size), late: make([]bool, size), alone: make([]bool, size)}
	for at := range size {
		before, after := strings.TrimRight(letters[:at], "s"), strings.TrimLeft(letters[at:], "s")
		s.down[at] = strings.HasPrefix(after, "r") || strings.HasPrefix(after, "o")
		s.up[at] = strings.HasSuffix(before, "r")
		// On a chain it is put off from an operand's change, or the beginning, to what reckons it first.
		s.delay[at] = s.down[at] && !s.up[at]
		s.early[at] = s.delay[at] && (at == 0 || strings.Contains("oc", letters[at-1:at]))
		s.late[at] = s.delay[at] && strings.HasPrefix(letters[at:], after)
	}
	for at := range size {
		rest := strings.TrimLeft(letters[min(at+1, len(letters)):], "sc")
		next := size - 1 - len(rest)
		s.alone[at] = rest == "" || s.late[next]
	}
	return s
}

func TestWhereItIsSafeOnAChain(t *testing.T) {
	d := &dice{state: 64}
	e := movables()[0]
	check := func(letters string) {
		p := chained(letters)
		if got, want := safeOf(p, e), safeByLetters(letters); !sameSafe(got, want) {
			t.Fatalf("%s:\n%s, not\n%s", letters, rows(got.rows()), rows(want.rows()))
		}
	}
	for size := 0; size < impl.ProgMax; size++ {
		check(strings.Repeat("s", size))
		check(strings.Repeat("r", size))
		check(strings.Repeat("o", size))
		check(strings.Repeat("c", size))
		for range 40 {
			kinds := []string{"sssssr", "sr", "ssssroc", "sssssssssssssroc"}[d.roll(4)]
			var letters strings.Builder
			for range size {
				letters.WriteByte(kinds[d.roll(len(kinds))])
			}
			check(letters.String())
		}
	}
}

// At the bound of steps: what is told goes from one end of the program to the other, also against the order of places.
func TestWhereItIsSafeInTheGreatest(t *testing.T) {
	e := movables()[0]
	yes, no := slices.Repeat([]bool{true}, impl.ProgMax), make([]bool, impl.ProgMax)
	first, last, butFirst, butLast := slices.Clone(no), slices.Clone(no), slices.Clone(yes), slices.Clone(yes)
	first[0], last[59], butFirst[0], butLast[59] = true, true, false, false
	idle := chained(strings.Repeat("s", 59))
	ring := cloneProg(idle)
	ring.Steps[59] = impl.Step{Kind: impl.StepSkip, Next: []int{0}}
	taken := cloneProg(ring)
	taken.Steps[59] = impl.Step{Kind: impl.StepSet, Dst: idleVar, Op: e.Op, A: e.A, B: e.B, Next: []int{0}}
	ahead := chained("r" + strings.Repeat("s", 58))
	// From the first step to the last place, and back from place to place to the step 1, which ends.
	back := impl.Prog{Steps: []impl.Step{{Kind: impl.StepSkip, Next: []int{59}}, {Kind: impl.StepEnd}}}
	for at := 2; at < 60; at++ {
		back.Steps = append(back.Steps, impl.Step{Kind: impl.StepSkip, Next: []int{at - 1}})
	}
	late := cloneProg(back)
	late.Steps[2] = impl.Step{Kind: impl.StepSet, Dst: e.A.Var, Op: e.Op, A: e.A, B: e.B, Next: []int{1}}
	two, butOne := slices.Clone(no), slices.Clone(yes)
	two[2], butOne[1] = true, false
	for i, c := range []struct {
		p    impl.Prog
		want safeTold
	}{
		{idle, safeTold{no, no, no, no, no, yes}},
		{ring, safeTold{yes, no, first, yes, no, yes}},
		{taken, safeTold{yes, no, first, yes, last, yes}},
		{ahead, safeTold{first, butFirst, first, first, first, yes}},
		{back, safeTold{no, no, no, no, no, yes}},
		{late, safeTold{butOne, no, first, butOne, two, yes}},
		{chained(strings.Repeat("s", 58) + "r"), safeTold{butLast, last, first, butLast, placedAt(58), yes}},
	} {
		if got := safeOf(c.p, e); !sameSafe(got, c.want) {
			t.Errorf("%d:\n%s, not\n%s", i, rows(got.rows()), rows(c.want.rows()))
		}
	}
}

// placedAt is a row of the greatest size that is so of one step.
func placedAt(at int) []bool {
	list := make([]bool, impl.ProgMax)
	list[at] = true
	return list
}

// A ladder: ways lead on and back between steps, so that what changes for one goes far, and comes back.
func TestWhereItIsSafeOnALadder(t *testing.T) {
	d := &dice{state: 65}
	for _, e := range movables() {
		for range 60 {
			var p impl.Prog
			for at := range impl.ProgMax {
				p.Steps = append(p.Steps, impl.Step{Kind: impl.StepTest, A: variable(idleVar), Next: []int{min(at+1, 59), max(at-1, 0)}})
				if at%15 == 7 {
					p.Steps[at] = impl.Step{Kind: impl.StepSkip, Next: []int{at + 1}}
				}
			}
			q := d.about(p, e, 8, 4)
			if got, want := safeOf(q, e), safeByWays(q, e); !sameSafe(got, want) {
				t.Fatalf("%q, %s:\n%s, not\n%s", impl.ProgWrite(q), exprSaid(e), rows(got.rows()), rows(want.rows()))
			}
		}
	}
}

func checkNothing(t *testing.T, p impl.Prog, e impl.Expr) {
	t.Helper()
	for i, list := range safeOf(p, e).rows() {
		if len(list) != 0 {
			t.Fatalf("%v, %v: row %d: %s", p, e, i, row(list))
		}
	}
}

func TestNothingIsSafeOfAReckoningThatIsNotOk(t *testing.T) {
	d := &dice{state: 66}
	for _, p := range []impl.Prog{told(t, "end\n"), told(t, "skip 0\n"), told(t, reckonsText), told(t, everyText), longest(), d.mover(12, movables()[0])} {
		for _, e := range wrongExprs() {
			if exprOkByTable(e) {
				t.Fatalf("%v is ok", e)
			}
			checkNothing(t, p, e)
		}
	}
}

func TestNothingIsSafeInAProgramThatIsNotOk(t *testing.T) {
	for _, p := range wrongReckoners() {
		if okByTable(p) {
			t.Fatalf("%v is ok", p)
		}
		for _, e := range append(movables(), impl.Expr{}, impl.Expr{Op: 9}, impl.Expr{Op: impl.OpAdd, A: num(-1)}) {
			checkNothing(t, p, e)
		}
	}
}
