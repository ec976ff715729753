package tests

import (
	"slices"
	"testing"

	"loop.example/causey/impl"
)

func TestSkipsByHand(t *testing.T) {
	checkLeft(t, "skip", []leftCase{
		{"out v0 1\nskip 2\nend\n", "out v0 1\nend\n"},
		{"out v0 1\nskip 3\nskip 4\nskip 2\nend\n", "out v0 1\nend\n"},
		{"test v0 1 2\nskip 3\nout v1 3\nend\n", "test v0 2 1\nout v1 2\nend\n"},
		{"v0 = in 1\nskip 2\ntest v0 3 4\nskip 0\nend\n", "v0 = in 1\ntest v0 0 2\nend\n"},
		// The others stay in order.
		{"out 1 5\nend\nout 3 1\nout 4 2\nskip 3\nskip 4\n", "out 1 3\nend\nout 3 1\nout 4 2\n"},
		// Both ways come to be one: it is a choice still.
		{"test v0 1 2\nskip 3\nskip 3\nend\n", "test v0 1 1\nend\n"},
		{"test v0 2 1\nskip 2\nend\n", "test v0 1 1\nend\n"},
		// Without a skip nothing is left out but what cannot be come to.
		{"end\n", ""},
		{"out v0 0\n", ""},
		{"test v0 1 0\nend\n", ""},
		{"out v0 2\nout v1 2\nend\n", "out v0 1\nend\n"},
		{"end\nend\n", "end\n"},
		{"end\nout v0 0\nskip 1\n", "end\n"},
		// What cannot be come to any more, when skips are left out, is skips alone.
		{"out v0 2\nskip 3\nskip 3\nend\n", "out v0 1\nend\n"},
	})
}

func TestSkipsAtTheBeginning(t *testing.T) {
	checkLeft(t, "skip", []leftCase{
		{"skip 1\nend\n", "end\n"},
		{"skip 1\nskip 2\nskip 3\nout v0 4\nskip 5\nend\n", "out v0 1\nend\n"},
		// It stands first instead, the others in order behind it.
		{"skip 2\nend\nskip 3\nout 1 1\n", "out 1 1\nend\n"},
		{"skip 3\nend\nout v0 1\ntest v1 2 1\n", "test v1 2 1\nend\nout v0 1\n"},
		// Ways lead to it besides.
		{"skip 1\nout v0 2\ntest v1 1 3\nend\n", "out v0 1\ntest v1 0 2\nend\n"},
		{"skip 2\nout v0 2\ntest v1 1 3\nend\n", "test v1 1 2\nout v0 0\nend\n"},
		{"skip 3\ntest v1 2 3\nend\nout v0 1\n", "out v0 1\ntest v1 2 0\nend\n"},
		// Ways lead back to the skip, or by others.
		{"skip 1\nout v0 2\ntest v1 0 3\nend\n", "out v0 1\ntest v1 0 2\nend\n"},
		{"skip 1\nout v0 2\ntest v1 3 4\nskip 0\nend\n", "out v0 1\ntest v1 0 2\nend\n"},
		// To itself.
		{"skip 1\nout v0 1\n", "out v0 0\n"},
		{"skip 1\nout v0 0\n", "out v0 0\n"},
		{"skip 1\ntest v0 1 0\n", "test v0 0 0\n"},
		{"skip 1\ntest v0 2 3\nskip 1\nend\n", "test v0 0 1\nend\n"},
		// To an end, and what else there is goes.
		{"skip 3\nout v0 2\nout v1 3\nend\n", "end\n"},
	})
}

func TestSkipsThatLeadRound(t *testing.T) {
	checkLeft(t, "skip", []leftCase{
		{"skip 0\n", ""},
		{"test v0 1 2\nskip 1\nend\n", ""},
		{"out v0 1\nskip 1\n", ""},
		{"out v0 1\nskip 2\nskip 1\n", ""},
		// Such as lead to them lead round, too: the way leads where it did.
		{"out v0 1\nskip 2\nskip 3\nskip 2\n", ""},
		{"out v0 1\nskip 2\nskip 2\n", ""},
		{"test v0 1 2\nskip 3\nskip 3\nskip 3\n", ""},
		{"test v0 1 4\nskip 2\nskip 3\nskip 2\nend\n", ""},
		{"test v0 3 1\nskip 2\nskip 1\nskip 4\nend\n", "test v0 3 1\nskip 2\nskip 1\nend\n"},
		// The first step leads round: to itself, in a ring, to one.
		{"skip 1\nskip 0\n", ""},
		{"skip 1\nskip 2\nskip 0\n", ""},
		{"skip 1\nskip 1\n", ""},
		{"skip 1\nskip 2\nskip 1\n", ""},
		{"skip 2\nskip 0\nskip 1\n", ""},
		{"skip 2\nend\nskip 0\n", "skip 1\nskip 0\n"},
		{"skip 0\nout v0 0\n", "skip 0\n"},
		{"skip 2\nout v0 0\nskip 2\n", "skip 1\nskip 1\n"},
		// Nobody comes to them.
		{"end\nskip 1\n", "end\n"},
		{"end\nskip 2\nskip 1\n", "end\n"},
		{"skip 2\nskip 1\nend\n", "end\n"},
	})
}

// skipsAlone is a program of skips, each leading where the list says.
func skipsAlone(to []int) impl.Prog {
	var p impl.Prog
	for _, next := range to {
		p.Steps = append(p.Steps, impl.Step{Kind: impl.StepSkip, Next: []int{next}})
	}
	return p
}

// In a program of skips alone all lead round: those stay that can be come to.
func TestProgramsOfSkipsAlone(t *testing.T) {
	d := &dice{state: 129}
	for size := 1; size <= impl.ProgMax; size++ {
		for range 20 {
			var to []int
			for range size {
				to = append(to, []int{d.roll(size), (len(to) + 1) % size, max(len(to)-1, 0)}[d.roll(3)])
			}
			p := skipsAlone(to)
			got := impl.LiveSkip(p)
			if want := skippedByNodes(p); !sameProg(got, want) || len(got.Steps) != countOf(reachWithout(p, -1)) {
				t.Fatalf("%q: %q, not %q", impl.ProgWrite(p), impl.ProgWrite(got), impl.ProgWrite(want))
			}
		}
	}
	// A ring of the greatest size, and a row to an end.
	ring := skipsAlone(make([]int, impl.ProgMax))
	for at := range ring.Steps {
		ring.Steps[at].Next[0] = (at + 1) % impl.ProgMax
	}
	row := cloneProg(ring)
	row.Steps[impl.ProgMax-1] = impl.Step{Kind: impl.StepEnd}
	back := cloneProg(ring)
	back.Steps[0].Next[0] = impl.ProgMax - 1
	for at := 2; at < impl.ProgMax; at++ {
		back.Steps[at].Next[0] = at - 1
	}
	back.Steps[1] = impl.Step{Kind: impl.StepEnd}
	for i, c := range []struct{ p, want impl.Prog }{{ring, ring}, {row, impl.Prog{Steps: row.Steps[impl.ProgMax-1:]}}, {back, impl.Prog{Steps: back.Steps[1:2]}}, {skips(impl.ProgMax), skips(1)}} {
		if got := impl.LiveSkip(c.p); !sameProg(got, c.want) {
			t.Errorf("%d: %q", i, impl.ProgWrite(got))
		}
	}
}

// A program of one step.
func TestSkipsInAProgramOfOneStep(t *testing.T) {
	for kind := impl.StepSet; kind <= impl.StepEnd; kind++ {
		p := impl.Prog{Steps: []impl.Step{(&dice{state: 130}).step(kind, 1)}}
		if got := impl.LiveSkip(p); !sameProg(got, p) {
			t.Errorf("%q: %q", impl.ProgWrite(p), impl.ProgWrite(got))
		}
	}
}

// skipProgs are steps of programs in which skips lead anywhere, beside choices and ends.
func skipProgs(size int) []impl.Step {
	steps := []impl.Step{{Kind: impl.StepEnd}}
	for a := range size {
		steps = append(steps, impl.Step{Kind: impl.StepSkip, Next: []int{a}})
		for b := range a {
			steps = append(steps, impl.Step{Kind: impl.StepTest, A: variable(1), Next: []int{a, b}})
		}
	}
	return steps
}

// manySkips hands on all programs of up to four steps that have skips, choices and ends, and many greater ones.
func manySkips(yield func(p impl.Prog)) {
	for size := 1; size <= 3; size++ {
		smallProgs(size, yield)
	}
	eachOf(skipProgs(4), make([]impl.Step, 4), 0, yield)
	greatWastes(1, impl.ProgMax, 20, yield)
	d := &dice{state: 131}
	for size := 1; size <= impl.ProgMax; size++ {
		for range 10 {
			p := d.wasteful(size)
			for at, s := range p.Steps {
				if len(s.Next) == 1 && d.roll(3) > 0 {
					p.Steps[at] = impl.Step{Kind: impl.StepSkip, Next: s.Next}
				}
			}
			yield(p)
		}
	}
}

func TestSkipsAgainstNodes(t *testing.T) {
	left, first, round := 0, 0, 0
	check := func(p impl.Prog) {
		got, want := impl.LiveSkip(p), skippedByNodes(p)
		if !sameProg(got, want) {
			t.Fatalf("%q: %q, not %q", impl.ProgWrite(p), impl.ProgWrite(got), impl.ProgWrite(want))
		}
		if len(got.Steps) < len(p.Steps) {
			left++
		}
		if isSkip(p.Steps[0]) && !isSkip(got.Steps[0]) {
			first++
		}
		if slices.ContainsFunc(got.Steps, isSkip) {
			round++
		}
	}
	manySkips(check)
	smallWastes(check)
	atLeast(t, 5000, left, first, round)
}

// The steps that stay stand in order, but for one that stands first instead of a skip.
func TestTheOrderWithoutSkips(t *testing.T) {
	manySkips(func(p impl.Prog) {
		if len(p.Steps) > impl.ProgVars {
			return
		}
		// Each step that is no skip is let known by a number of its own.
		q := cloneProg(p)
		for at := range q.Steps {
			if s := &q.Steps[at]; len(s.Next) == 2 || !isSkip(*s) && len(s.Next) == 1 {
				kind := map[int]int{1: impl.StepOut, 2: impl.StepTest}[len(s.Next)]
				*s = impl.Step{Kind: kind, A: num(100 + at), Next: s.Next}
			}
		}
		var known []int
		for _, s := range impl.LiveSkip(q).Steps {
			if s.A.Num > 0 {
				known = append(known, s.A.Num-100)
			}
		}
		if first := endOfSkips(q, 0); isSkip(q.Steps[0]) && len(q.Steps[first].Next) > 0 && !isSkip(q.Steps[first]) {
			if len(known) == 0 || known[0] != first {
				t.Fatalf("%q: %v, not %d first", impl.ProgWrite(q), known, first)
			}
			known = known[1:]
		}
		if !ascending(known) {
			t.Fatalf("%q: %v", impl.ProgWrite(q), known)
		}
	})
}
