package tests

import (
	"slices"
	"strconv"
	"strings"
	"testing"

	"loop.example/causey/impl"
)

func TestCopiesByHand(t *testing.T) {
	checkLeft(t, "copy", []leftCase{
		// Each kind of step that uses it, and both operands.
		{"v0 = in 1\nv1 = v0 2\nv2 = v1 + v1 3\nv3 = v1 4\nout v1 5\ntest v1 6 6\nend\n", "v0 = in 1\nv1 = v0 2\nv2 = v0 + v0 3\nv3 = v0 4\nout v0 5\ntest v0 6 6\nend\n"},
		{"v1 = 7 1\nv2 = v1 - v1 2\nv3 = v1 3\nout v1 4\ntest v1 5 5\nend\n", "v1 = 7 1\nv2 = 7 - 7 2\nv3 = 7 3\nout 7 4\ntest 7 5 5\nend\n"},
		{"v1 = v0 1\nv2 = 3 2\nv3 = v1 < v2 3\nv3 = v2 * v1 4\nend\n", "v1 = v0 1\nv2 = 3 2\nv3 = v0 < 3 3\nv3 = 3 * v0 4\nend\n"},
		// Of a copy of what is a copy it is what that is, no more.
		{"v1 = v0 1\nv2 = v1 2\nout v2 3\nend\n", "v1 = v0 1\nv2 = v0 2\nout v1 3\nend\n"},
		{"v1 = 4 1\nv2 = v1 2\nv3 = v2 3\nout v3 4\nend\n", "v1 = 4 1\nv2 = 4 2\nv3 = v1 3\nout v2 4\nend\n"},
		// It ends where its Dst changes, or its A, by each kind of step.
		{"v1 = v0 1\nv0 = in 2\nout v1 3\nend\n", ""},
		{"v1 = v0 1\nv0 = 4 2\nout v1 3\nend\n", ""},
		{"v1 = v0 1\nv0 = v2 + 4 2\nout v1 3\nend\n", ""},
		{"v1 = v0 1\nv1 = in 2\nout v1 3\nend\n", ""},
		{"v1 = v0 1\nv1 = v2 + 4 2\nout v1 3\nend\n", ""},
		{"v1 = v0 1\nv1 = 4 2\nout v1 3\nend\n", "v1 = v0 1\nv1 = 4 2\nout 4 3\nend\n"},
		{"v1 = 3 1\nv1 = in 2\nout v1 3\nend\n", ""},
		// Others may change.
		{"v1 = v0 1\nv2 = in 2\nv3 = 4 3\nout v1 4\nend\n", "v1 = v0 1\nv2 = in 2\nv3 = 4 3\nout v0 4\nend\n"},
		// A number does not change, whatever variable has its digits.
		{"v1 = 2 1\nv2 = in 2\nout v1 3\nend\n", "v1 = 2 1\nv2 = in 2\nout 2 3\nend\n"},
		{"v1 = 0 1\nv0 = in 2\nout v1 3\nend\n", "v1 = 0 1\nv0 = in 2\nout 0 3\nend\n"},
		// Who ends it uses it, too.
		{"v1 = v0 1\nv1 = v1 + 1 2\nout v1 3\nend\n", "v1 = v0 1\nv1 = v0 + 1 2\nout v1 3\nend\n"},
		{"v1 = v0 1\nv0 = v1 * v0 2\nout v1 3\nend\n", "v1 = v0 1\nv0 = v0 * v0 2\nout v1 3\nend\n"},
		{"v1 = v0 1\nv0 = v1 2\nout v0 3\nout v1 4\nend\n", "v1 = v0 1\nv0 = v0 2\nout v1 3\nout v1 4\nend\n"},
		// The variable 0, and no operand at all.
		{"v0 = v1 1\nv2 = in 2\nskip 3\nout v0 4\nend\n", "v0 = v1 1\nv2 = in 2\nskip 3\nout v1 4\nend\n"},
		{"v0 = 9 1\nv2 = in 2\nskip 3\nend\n", ""},
		{"v0 = 9 1\nout 0 2\nv2 = 0 + 0 3\nend\n", ""},
		// What is reckoned is no copy, even if it is the same.
		{"v1 = v0 + 0 1\nout v1 2\nend\n", ""},
		{"v1 = in 1\nout v1 2\nend\n", ""},
	})
}

func TestCopiesOnSeveralWays(t *testing.T) {
	checkLeft(t, "copy", []leftCase{
		// Ways meet: each must bring it.
		{"test v3 1 2\nv1 = v0 3\nv1 = v0 3\nout v1 4\nend\n", "test v3 1 2\nv1 = v0 3\nv1 = v0 3\nout v0 4\nend\n"},
		{"test v3 1 2\nv1 = v0 3\nv1 = v2 3\nout v1 4\nend\n", ""},
		{"test v3 1 2\nv1 = 3 3\nv1 = 4 3\nout v1 4\nend\n", ""},
		{"test v3 1 2\nv1 = 0 3\nv1 = v0 3\nout v1 4\nend\n", ""},
		{"test v3 1 2\nv1 = v0 3\nskip 3\nout v1 4\nend\n", ""},
		{"v1 = v0 1\ntest v3 2 3\nskip 3\nout v1 4\nend\n", "v1 = v0 1\ntest v3 2 3\nskip 3\nout v0 4\nend\n"},
		{"v1 = v0 1\ntest v3 2 3\nv1 = v0 3\nout v1 4\nend\n", "v1 = v0 1\ntest v3 2 3\nv1 = v0 3\nout v0 4\nend\n"},
		// It ends on one way, on both.
		{"v1 = v0 1\ntest v3 2 3\nv0 = in 4\nout v1 4\nout v1 5\nend\n", "v1 = v0 1\ntest v3 2 3\nv0 = in 4\nout v0 4\nout v1 5\nend\n"},
		{"v1 = v0 1\ntest v3 2 3\nv1 = in 4\nout v1 4\nout v1 5\nend\n", "v1 = v0 1\ntest v3 2 3\nv1 = in 4\nout v0 4\nout v1 5\nend\n"},
		{"v1 = v0 1\ntest v3 2 3\nv1 = in 4\nv0 = in 4\nout v1 5\nend\n", ""},
		{"v1 = 8 1\ntest v3 2 3\nv1 = in 4\nv0 = in 4\nout v1 5\nend\n", ""},
		// It ends on one way, and is there again.
		{"v1 = v0 1\ntest v3 2 3\nv0 = in 4\nout v1 5\nv1 = v0 5\nout v1 6\nend\n", "v1 = v0 1\ntest v3 2 3\nv0 = in 4\nout v0 5\nv1 = v0 5\nout v0 6\nend\n"},
		// A choice whose both ways are one.
		{"v1 = v0 1\ntest v1 2 2\nout v1 3\nend\n", "v1 = v0 1\ntest v0 2 2\nout v0 3\nend\n"},
		// Two copies to one variable: the one that is behind holds.
		{"v1 = v0 1\nv1 = v2 2\nout v1 3\nend\n", "v1 = v0 1\nv1 = v2 2\nout v2 3\nend\n"},
		{"v1 = 4 1\nv1 = 5 2\nout v1 3\nend\n", "v1 = 4 1\nv1 = 5 2\nout 5 3\nend\n"},
		{"skip 3\nv1 = v2 2\nout v1 4\nv1 = v0 1\nend\n", "skip 3\nv1 = v2 2\nout v2 4\nv1 = v0 1\nend\n"},
		// Two that are one hold at once.
		{"v1 = v0 1\nv1 = v0 2\nout v1 3\nend\n", "v1 = v0 1\nv1 = v0 2\nout v0 3\nend\n"},
		{"v1 = 6 1\nskip 2\nv1 = 6 3\nv2 = v1 - v1 4\nend\n", "v1 = 6 1\nskip 2\nv1 = 6 3\nv2 = 6 - 6 4\nend\n"},
		// Two of one variable, in what a step uses.
		{"v1 = v0 1\nv2 = v0 2\nv3 = v1 - v2 3\nend\n", "v1 = v0 1\nv2 = v0 2\nv3 = v0 - v0 3\nend\n"},
	})
}

func TestCopiesAtTheEdges(t *testing.T) {
	checkLeft(t, "copy", []leftCase{
		{"end\n", ""},
		// A copy of a variable to itself is of no other one; but it changes it.
		{"v0 = v0 1\nout v0 2\nend\n", ""},
		{"v1 = v0 1\nv0 = v0 2\nout v1 3\nend\n", ""},
		{"v1 = v0 1\nv1 = v1 2\nout v1 3\nend\n", "v1 = v0 1\nv1 = v0 2\nout v1 3\nend\n"},
		{"v1 = 3 1\nv1 = v1 2\nout v1 3\nend\n", "v1 = 3 1\nv1 = 3 2\nout v1 3\nend\n"},
		// At the first step none holds, whatever leads back to it.
		{"v1 = v0 1\ntest v1 0 2\nend\n", "v1 = v0 1\ntest v0 0 2\nend\n"},
		{"out v1 1\nv1 = v0 0\n", ""},
		{"v2 = v1 1\nv1 = v0 0\n", ""},
		{"v1 = v0 0\n", ""},
		{"test v1 0 0\n", ""},
		// A step whose way leads to itself.
		{"v1 = v0 1\nout v1 1\n", "v1 = v0 1\nout v0 1\n"},
		{"v1 = v0 1\nv0 = v1 + 1 1\n", ""},
		{"v1 = v0 1\nv1 = v1 + 1 1\n", ""},
		{"v1 = v0 1\nv2 = v1 + 1 1\n", "v1 = v0 1\nv2 = v0 + 1 1\n"},
		{"skip 1\nv1 = v0 1\n", ""},
		// Round: it holds as long as nobody ends it; a smaller one fits besides.
		{"v1 = v0 1\nout v1 2\nskip 1\n", "v1 = v0 1\nout v0 2\nskip 1\n"},
		{"v1 = v0 1\nout v1 2\nv0 = in 1\n", ""},
		{"v1 = v0 1\nout v1 2\nv1 = v0 1\n", "v1 = v0 1\nout v0 2\nv1 = v0 1\n"},
		{"v1 = v0 1\nout v1 2\nv1 = v1 1\n", ""},
		{"skip 1\nout v1 2\nv1 = v0 1\n", ""},
		{"v1 = 5 1\ntest v1 2 3\nv2 = v2 + v1 1\nend\n", "v1 = 5 1\ntest 5 2 3\nv2 = v2 + 5 1\nend\n"},
		// Round without a head.
		{"v1 = 5 1\ntest v0 2 3\nout v1 3\nv2 = v1 2\n", "v1 = 5 1\ntest v0 2 3\nout 5 3\nv2 = 5 2\n"},
		{"v1 = 5 1\ntest v0 2 3\nout v1 3\nv1 = v1 + 1 2\n", ""},
		// Ways that lead round, and that nobody comes to: nothing holds there, nor do they matter.
		{"end\nv1 = v0 2\nout v1 2\n", ""},
		{"end\nout v1 1\n", ""},
		{"v1 = v0 2\nv1 = v2 2\nout v1 3\nend\n", "v1 = v0 2\nv1 = v2 2\nout v0 3\nend\n"},
		{"v1 = v0 2\nv1 = in 2\nout v1 3\nend\nv0 = in 2\n", "v1 = v0 2\nv1 = in 2\nout v0 3\nend\nv0 = in 2\n"},
		{"skip 2\nv1 = v0 2\nout v1 3\nend\n", ""},
		{"skip 2\nv1 = v0 2\nv1 = v0 3\nout v1 4\nend\n", "skip 2\nv1 = v0 2\nv1 = v0 3\nout v0 4\nend\n"},
		{"v1 = v0 1\nend\nout v1 1\n", ""},
		// The last variables, and the greatest number.
		{"v11 = v10 1\nout v11 2\nend\n", "v11 = v10 1\nout v10 2\nend\n"},
		{"v11 = 65535 1\nv10 = v11 + v11 2\nend\n", "v11 = 65535 1\nv10 = 65535 + 65535 2\nend\n"},
	})
}

func TestCopiesAgainstWays(t *testing.T) {
	used := 0
	check := func(p impl.Prog) {
		got, want := impl.LiveCopy(p), copiedByWays(p)
		if !sameProg(got, want) {
			t.Fatalf("%q: %q, not %q", impl.ProgWrite(p), impl.ProgWrite(got), impl.ProgWrite(want))
		}
		if !sameProg(got, p) {
			used++
		}
	}
	manyWastes(check)
	d := &dice{state: 127}
	for size := 1; size <= impl.ProgMax; size++ {
		check(d.prog(size))
		check(d.alike(size))
	}
	atLeast(t, 3000, used)
}

// probed is a program with a step ahead of one of its steps that lets a variable out, and changes nothing: what becomes of its operand tells what holds there.
func probed(p impl.Prog, at, v int) impl.Prog {
	q := cloneProg(p)
	q.Steps = append(q.Steps, q.Steps[at])
	q.Steps[at] = impl.Step{Kind: impl.StepOut, A: variable(v), Next: []int{len(p.Steps)}}
	return q
}

// checkHolds asks of each step whether a copy holds there, by what would be used.
func checkHolds(t *testing.T, p impl.Prog, c copying, holds []bool) {
	t.Helper()
	for at, yes := range holds {
		got := impl.LiveCopy(probed(p, at, c.dst)).Steps[at].A
		if yes != (got == c.a) {
			t.Fatalf("%q: step %d: v%d is used as %s, a copy of %s holds: %v", impl.ProgWrite(p), at, c.dst, opndSaid(got), opndSaid(c.a), yes)
		}
	}
}

// The greatest of all sets that fit, also where smaller ones do.
func TestWhereCopiesHoldAgainstAllSets(t *testing.T) {
	smaller, held := 0, 0
	check := func(p impl.Prog) {
		list := copyings(p)
		if len(p.Steps) > 7 || len(list) == 0 {
			return
		}
		m := matterOf(p, movables()[0])
		for _, c := range list {
			said := func(at int, so []bool) bool { return c.saidHolds(m, at, so) }
			want := bySets(m, said)
			if own := c.holdsByWays(p, m.reach, m.ahead); !slices.Equal(own, want) {
				t.Fatalf("%q: v%d of %s: by ways %s, not %s", impl.ProgWrite(p), c.dst, opndSaid(c.a), row(own), row(want))
			}
			checkHolds(t, p, c, want)
			held += countOf(want)
			if !slices.Equal(want, least(m, said)) {
				smaller++
			}
		}
	}
	smallWastes(check)
	greatWastes(4, 7, 50, check)
	atLeast(t, 300, smaller, held)
}

// Of programs of each size, at each step, each copy.
func TestWhereCopiesHoldAgainstWays(t *testing.T) {
	held := 0
	greatWastes(1, impl.ProgMax-1, 2, func(p impl.Prog) {
		if len(p.Steps) == impl.ProgMax {
			return
		}
		reach, ahead := reachWithout(p, -1), predsByAsking(p)
		for _, c := range copyings(p) {
			holds := c.holdsByWays(p, reach, ahead)
			checkHolds(t, p, c, holds)
			held += countOf(holds)
		}
	})
	atLeast(t, 1000, held)
}

// Two copies to one variable hold at once only if they are one: of two others that which is behind ends the one ahead.
func TestNoTwoCopiesHoldAtOnce(t *testing.T) {
	held := 0
	manyWastes(func(p impl.Prog) {
		reach, ahead := reachWithout(p, -1), predsByAsking(p)
		list := copyings(p)
		var holds [][]bool
		for _, c := range list {
			holds = append(holds, c.holdsByWays(p, reach, ahead))
		}
		for i, c := range list {
			for k, other := range list[:i] {
				for at := range p.Steps {
					if holds[i][at] && holds[k][at] && c.dst == other.dst && c != other {
						t.Fatalf("%q: step %d: v%d is a copy of %s, and of %s", impl.ProgWrite(p), at, c.dst, opndSaid(c.a), opndSaid(other.a))
					}
				}
			}
			held += countOf(holds[i])
		}
	})
	atLeast(t, 10000, held)
}

// chainOfCopies is a copy of the variable 1 to each other one, of that to the next one, and so on, and all are let out.
func chainOfCopies() string {
	var lines []string
	for v := 2; v < impl.ProgVars; v++ {
		lines = append(lines, "v"+strconv.Itoa(v)+" = v"+strconv.Itoa(v-1)+" "+strconv.Itoa(len(lines)+1))
	}
	for v := 2; v < impl.ProgVars; v++ {
		lines = append(lines, "out v"+strconv.Itoa(v)+" "+strconv.Itoa(len(lines)+1))
	}
	return strings.Join(append(lines, "end\n"), "\n")
}

// Of copies of copies each time one is left out: at last all are used as the first one.
func TestCopiesOfCopiesOneByOne(t *testing.T) {
	p := told(t, chainOfCopies())
	times := 0
	for ; times < 20; times++ {
		q := impl.LiveCopy(p)
		if !sameProg(q, copiedByWays(p)) {
			t.Fatalf("%q: %q", impl.ProgWrite(p), impl.ProgWrite(q))
		}
		if sameProg(p, q) {
			break
		}
		p = q
	}
	for at := range 10 {
		if p.Steps[at].A != variable(1) || p.Steps[10+at].A != variable(1) {
			t.Fatalf("%q", impl.ProgWrite(p))
		}
	}
	// Where what a variable is a copy of is told by a copy of that, the row of copies is halved each time.
	if times != 4 {
		t.Errorf("%d times", times)
	}
}

// At the bound of steps: a copy at the beginning holds up to the end, one that comes round does not come to the first.
func TestCopiesInTheGreatest(t *testing.T) {
	for _, last := range []impl.Step{{Kind: impl.StepEnd}, {Kind: impl.StepSkip, Next: []int{1}}, {Kind: impl.StepOut, A: variable(2), Next: []int{0}}, {Kind: impl.StepIn, Dst: 3, Next: []int{1}}} {
		p := straight(impl.ProgMax-1, last)
		p.Steps[0] = impl.Step{Kind: impl.StepCopy, Dst: 2, A: variable(3), Next: []int{1}}
		got := impl.LiveCopy(p)
		for at, s := range got.Steps {
			used := at > 0 && s.Kind == impl.StepOut && s.A == variable(3)
			if used != (at > 0 && p.Steps[at].Kind == impl.StepOut && last.Kind != impl.StepIn) {
				t.Fatalf("%q: step %d: %v", impl.ProgWrite(p), at, s)
			}
		}
	}
	// As many copies as there is room for, all used as the one ahead.
	var many impl.Prog
	for at := range impl.ProgMax {
		many.Steps = append(many.Steps, impl.Step{Kind: impl.StepCopy, Dst: at % 12, A: variable((at + 11) % 12), Next: []int{min(at+1, impl.ProgMax-1)}})
	}
	if got, want := impl.LiveCopy(many), copiedByWays(many); !sameProg(got, want) || sameProg(got, many) {
		t.Errorf("%q, not %q", impl.ProgWrite(got), impl.ProgWrite(want))
	}
}
