package tests

import (
	"slices"
	"testing"

	"loop.example/causey/impl"
)

// Promise 28.
func TestEachReckoningIsToldOnce(t *testing.T) {
	manyReckoners(func(p impl.Prog) {
		list := impl.ExprList(p)
		last := -1
		for i, e := range list {
			if !impl.ExprOk(e) || slices.Contains(list[:i], e) {
				t.Fatalf("%v: %v", p, list)
			}
			first := slices.Index(impl.ExprComp(p, e), true)
			if first < 0 || first <= last {
				t.Fatalf("%v: %s is reckoned by %d, what is told ahead of it by %d", p, exprSaid(e), first, last)
			}
			last = first
		}
		for at, s := range p.Steps {
			if e, ok := exprOf(s); ok && !slices.Contains(list, e) {
				t.Fatalf("%v: what step %d reckons is not told: %v", p, at, list)
			}
		}
	})
}

// Promise 29.
func TestAStepReckonsOneThingAlone(t *testing.T) {
	manyReckoners(func(p impl.Prog) {
		list := impl.ExprList(p)
		reckons := make([]int, len(p.Steps))
		for _, e := range list {
			for at, yes := range impl.ExprComp(p, e) {
				if yes {
					reckons[at]++
				}
			}
		}
		for at, s := range p.Steps {
			want := 0
			if s.Kind == impl.StepSet {
				want = 1
			}
			if reckons[at] != want {
				t.Fatalf("%v: step %d reckons %d things", p, at, reckons[at])
			}
		}
		for _, e := range asked(p) {
			if !slices.Contains(list, e) && slices.Contains(impl.ExprComp(p, e), true) {
				t.Fatalf("%v: %s is reckoned, but not told", p, exprSaid(e))
			}
		}
	})
}

// changesOpnd says whether a step changes an operand.
func changesOpnd(s impl.Step, o impl.Opnd) bool {
	changing := s.Kind == impl.StepSet || s.Kind == impl.StepCopy || s.Kind == impl.StepIn
	return changing && o.Var != -1 && s.Dst == o.Var
}

// Promise 30.
func TestWhoChangesAnOperandDoesNotKeepIt(t *testing.T) {
	lost, kept := 0, 0
	manyReckoners(func(p impl.Prog) {
		for _, e := range asked(p) {
			keeps := impl.ExprKeeps(p, e)
			if len(keeps) != len(p.Steps) {
				t.Fatalf("%v: %v", p, keeps)
			}
			for at, s := range p.Steps {
				changes := changesOpnd(s, e.A) || changesOpnd(s, e.B)
				if keeps[at] == changes {
					t.Fatalf("%v: step %d keeps %s: %v", p, at, exprSaid(e), keeps[at])
				}
				if changes {
					lost++
				} else {
					kept++
				}
			}
			e.A, e.B = num(e.A.Num), num(e.B.Num)
			if slices.Contains(impl.ExprKeeps(p, e), false) {
				t.Fatalf("%v: %s is not kept", p, exprSaid(e))
			}
		}
	})
	if lost < 1000 || kept < 1000 {
		t.Errorf("only %d lost, %d kept", lost, kept)
	}
}

// What a step keeps comes to the same behind it as ahead of it, whatever comes in.
func TestWhatIsKeptComesToTheSame(t *testing.T) {
	d := &dice{state: 54}
	differ := 0
	for range 4000 {
		kind := []int{impl.StepSet, impl.StepCopy, impl.StepIn, impl.StepTest, impl.StepSkip}[d.roll(5)]
		s := d.step(kind, 1)
		e := impl.Expr{Op: 1 + d.roll(4), A: d.alikeOpnd(), B: d.alikeOpnd()}
		p := reckonedAround(s, e)
		var in []int
		for range impl.ProgVars + 1 {
			in = append(in, d.roll(impl.ProgNum))
		}
		r := impl.RunOf(p, in, impl.RunMax)
		if r.Code != impl.RunEnded || len(r.Outs) != 2 {
			t.Fatalf("%v: %v", p, r)
		}
		same := r.Outs[0] == r.Outs[1]
		if !same {
			differ++
		}
		if keeps := impl.ExprKeeps(p, e); keeps[stepAround] && !same {
			t.Fatalf("%v: %s is kept, and comes to %v", p, exprSaid(e), r.Outs)
		}
	}
	if differ < 100 {
		t.Errorf("only %d differ", differ)
	}
}

// stepAround is where the step stands around which something is reckoned.
const stepAround = impl.ProgVars + 2

// reckonedAround takes in all variables, reckons and lets out, does the step, reckons and lets out again. A variable with which nobody else has to do has what is let out.
func reckonedAround(s impl.Step, e impl.Expr) impl.Prog {
	var p impl.Prog
	free := 0
	for variable(free) == e.A || variable(free) == e.B || variable(free) == s.A || variable(free) == s.B || s.Dst == free {
		free++
	}
	add := func(s impl.Step) {
		at := len(p.Steps) + 1
		s.Next = slices.Repeat([]int{at}, len(s.Next))
		p.Steps = append(p.Steps, s)
	}
	reckon := func() {
		add(impl.Step{Kind: impl.StepSet, Dst: free, Op: e.Op, A: e.A, B: e.B, Next: []int{0}})
		add(impl.Step{Kind: impl.StepOut, A: variable(free), Next: []int{0}})
	}
	for v := range impl.ProgVars {
		add(impl.Step{Kind: impl.StepIn, Dst: v, Next: []int{0}})
	}
	reckon()
	add(s)
	reckon()
	p.Steps = append(p.Steps, impl.Step{Kind: impl.StepEnd})
	return p
}

// Promise 31.
func TestTurnedAboutIsAnotherReckoning(t *testing.T) {
	both, same := 0, 0
	manyReckoners(func(p impl.Prog) {
		list := impl.ExprList(p)
		for _, e := range asked(p) {
			comp, about := impl.ExprComp(p, e), impl.ExprComp(p, turned(e))
			if e.A == e.B {
				if !slices.Equal(comp, about) {
					t.Fatalf("%v: %s turned about is another one", p, exprSaid(e))
				}
				same++
				continue
			}
			for at := range p.Steps {
				if comp[at] && about[at] {
					t.Fatalf("%v: step %d reckons %s, and turned about, too", p, at, exprSaid(e))
				}
			}
			if slices.Contains(comp, true) && slices.Contains(about, true) {
				both++
				if !slices.Contains(list, e) || !slices.Contains(list, turned(e)) {
					t.Fatalf("%v: %s and turned about are not both told: %v", p, exprSaid(e), list)
				}
			}
			// The operands stay the same: who keeps one keeps the other.
			if !slices.Equal(impl.ExprKeeps(p, e), impl.ExprKeeps(p, turned(e))) {
				t.Fatalf("%v: %s turned about is kept otherwise", p, exprSaid(e))
			}
		}
	})
	if both < 500 || same < 1000 {
		t.Errorf("only %d both ways, %d the same", both, same)
	}
}
