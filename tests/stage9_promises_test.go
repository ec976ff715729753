package tests

import (
	"slices"
	"testing"

	"loop.example/causey/impl"
)

// setAt is a program with a step just ahead of one of its steps that makes a variable a number; the step itself stands at the end.
func setAt(p impl.Prog, at, v, n int) impl.Prog {
	q := cloneProg(p)
	q.Steps = append(q.Steps, q.Steps[at])
	q.Steps[at] = impl.Step{Kind: impl.StepCopy, Dst: v, A: num(n), Next: []int{len(p.Steps)}}
	return q
}

// Promise 65.
func TestWhatIsNotNeededAtTheBeginningMayBeAnything(t *testing.T) {
	d := &dice{state: 135}
	tried, used, matters := 0, 0, 0
	wasteRuns(func(p impl.Prog, in []int) {
		if len(p.Steps) == impl.ProgMax {
			return
		}
		live := impl.LiveOf(p)
		for v := range 4 {
			most := []int{0, 1, d.roll(60), impl.RunMax - 1}[d.roll(4)]
			r := impl.RunOf(p, in, most)
			s := impl.RunOf(setAhead(p, v, 1+d.roll(65535)), in, most+1)
			same := r.Code != impl.RunBad && sameResult(s, stepAhead(r))
			if live[0][v] {
				if !same {
					matters++
				}
				continue
			}
			tried++
			if usesVar(p, v) {
				used++
			}
			if !same {
				t.Fatalf("%q, %v, %d: %v, and with v%d set %v", impl.ProgWrite(p), in, most, r, v, s)
			}
		}
	})
	atLeast(t, 1000, tried, used, matters)
}

// Promise 65, of what is not needed anywhere: it may be anything there, at each time that one comes there.
func TestWhatIsNotNeededAheadOfAStepMayBeAnything(t *testing.T) {
	d := &dice{state: 136}
	tried := 0
	wasteRuns(func(p impl.Prog, in []int) {
		if len(p.Steps) == impl.ProgMax {
			return
		}
		live := impl.LiveOf(p)
		at, v := d.roll(len(p.Steps)), d.roll(4)
		if live[at][v] || !reachWithout(p, -1)[at] {
			return
		}
		tried++
		r, s := impl.RunOf(p, in, impl.RunMax/2), impl.RunOf(setAt(p, at, v, 1+d.roll(65535)), in, impl.RunMax)
		if r.Code == impl.RunLong {
			if !begins(r.Outs, s.Outs) {
				t.Fatalf("%q, %v: %v, and with v%d set ahead of %d %v", impl.ProgWrite(p), in, r, v, at, s)
			}
		} else if r.Code != s.Code || !slices.Equal(r.Outs, s.Outs) {
			t.Fatalf("%q, %v: %v, and with v%d set ahead of %d %v", impl.ProgWrite(p), in, r, v, at, s)
		}
	})
	atLeast(t, 5000, tried)
}

// Promise 66. That it is the least that fits: from none on those come in of which it must be so.
func TestLiveOfIsSoJustIfTheSentenceIs(t *testing.T) {
	manyWastes(func(p impl.Prog) {
		live := impl.LiveOf(p)
		if len(live) != len(p.Steps) {
			t.Fatalf("%q: %s", impl.ProgWrite(p), rows(live))
		}
		for v := range impl.ProgVars {
			column, so := make([]bool, len(live)), make([]bool, len(live))
			for at := range live {
				if len(live[at]) != impl.ProgVars {
					t.Fatalf("%q: %s", impl.ProgWrite(p), rows(live))
				}
				column[at] = live[at][v]
			}
			for fresh := true; fresh; {
				fresh = false
				for at := range so {
					if !so[at] && saidNeeded(p, v, at, so) {
						so[at], fresh = true, true
					}
				}
			}
			for at := range so {
				if column[at] != saidNeeded(p, v, at, column) || column[at] != so[at] {
					t.Fatalf("%q: v%d, step %d: %s, and %s must be", impl.ProgWrite(p), v, at, row(column), row(so))
				}
			}
		}
	})
}

// checkRunsAlike: as far as it goes, step by step, at several bounds.
func checkRunsAlike(t *testing.T, what string, p, q impl.Prog, in []int, mosts ...int) {
	t.Helper()
	for _, most := range append(mosts, impl.RunMax) {
		if r, s := impl.RunOf(p, in, most), impl.RunOf(q, in, most); r.Code == impl.RunBad || !sameResult(r, s) {
			t.Fatalf("%s %q, %v, %d: %v, and of %q %v", what, impl.ProgWrite(p), in, most, r, impl.ProgWrite(q), s)
		}
	}
}

// Promise 67. It comes to the same steps, too, as what is left out leaves a skip.
func TestWithoutWhatNobodyNeedsItSaysTheSame(t *testing.T) {
	d := &dice{state: 137}
	left := 0
	wasteRuns(func(p impl.Prog, in []int) {
		q := impl.LiveDead(p)
		checkRunsAlike(t, "dead", p, q, in, 0, 1, d.roll(60))
		path := impl.RunOf(p, in, impl.RunMax).Path
		if slices.ContainsFunc(path, func(at int) bool { return q.Steps[at].Kind != p.Steps[at].Kind }) {
			left++
		}
		// And again and again, until nothing is left that nobody needs.
		for range 3 {
			q = impl.LiveDead(q)
		}
		checkRunsAlike(t, "dead", p, q, in)
	})
	atLeast(t, 5000, left)
}

// Promise 68.
func TestWhatIsLeftOutIsAllThatNobodyNeeds(t *testing.T) {
	left, kept := 0, 0
	manyWastes(func(p impl.Prog) {
		live, q := impl.LiveOf(p), impl.LiveDead(p)
		if len(q.Steps) != len(p.Steps) {
			t.Fatalf("%q: %q", impl.ProgWrite(p), impl.ProgWrite(q))
		}
		for at, s := range p.Steps {
			want := s
			if s.Kind == impl.StepSet || s.Kind == impl.StepCopy {
				if !live[s.Next[0]][s.Dst] {
					want = impl.Step{Kind: impl.StepSkip, Next: s.Next}
					left++
				} else {
					kept++
				}
			}
			if !sameStep(q.Steps[at], want) {
				t.Fatalf("%q: step %d: %v, not %v", impl.ProgWrite(p), at, q.Steps[at], want)
			}
		}
	})
	atLeast(t, 10000, left, kept)
}

// values is what all variables are ahead of each step of a story.
func values(p impl.Prog, in []int) []uint16 {
	var list []uint16
	watched(p, in, func(place int, value func(o impl.Opnd) uint16) {
		list = append(list, uint16(place))
		for v := range impl.ProgVars {
			list = append(list, value(variable(v)))
		}
	})
	return list
}

// checkStepByStep: both come to the same steps, and all variables are the same at each.
func checkStepByStep(t *testing.T, what string, p, q impl.Prog, in []int, most int) bool {
	t.Helper()
	checkRunsAlike(t, what, p, q, in, 0, 1, most)
	if sameProg(p, q) {
		return false
	}
	if !slices.Equal(values(p, in), values(q, in)) {
		t.Fatalf("%s %q, %v: variables are otherwise in %q", what, impl.ProgWrite(p), in, impl.ProgWrite(q))
	}
	path := impl.RunOf(p, in, impl.RunMax).Path
	return slices.ContainsFunc(path, func(at int) bool { return !sameStep(q.Steps[at], p.Steps[at]) })
}

// Promise 69.
func TestWithCopiesUsedRunsAreTheSame(t *testing.T) {
	d := &dice{state: 138}
	used := 0
	wasteRuns(func(p impl.Prog, in []int) {
		q := impl.LiveCopy(p)
		if checkStepByStep(t, "copy", p, q, in, d.roll(60)) {
			used++
		}
		for range 3 {
			q = impl.LiveCopy(q)
		}
		checkRunsAlike(t, "copy", p, q, in)
	})
	atLeast(t, 1000, used)
}

// Promise 69: where a copy holds, its variable is what it is a copy of.
func TestWhereACopyHoldsItIsTheSame(t *testing.T) {
	used := 0
	greatWastes(1, impl.ProgMax, 6, func(p impl.Prog) {
		q := impl.LiveCopy(p)
		for _, in := range (&dice{state: 139}).wasteInputs() {
			watched(p, in, func(place int, value func(o impl.Opnd) uint16) {
				s, copied := p.Steps[place], q.Steps[place]
				if value(s.A) != value(copied.A) || value(s.B) != value(copied.B) {
					t.Fatalf("%q, %v: step %d: %v, not %v", impl.ProgWrite(p), in, place, copied, s)
				}
				if !sameStep(s, copied) && value(s.A) != 0 {
					used++
				}
			})
		}
	})
	atLeast(t, 1000, used)
}

// Promise 70.
func TestWithReckoningsOfNumbersRunsAreTheSame(t *testing.T) {
	d := &dice{state: 140}
	folded := 0
	wasteRuns(func(p impl.Prog, in []int) {
		if checkStepByStep(t, "fold", p, impl.LiveFold(p), in, d.roll(60)) {
			folded++
		}
	})
	atLeast(t, 500, folded)
}

// Promise 71.
func TestFoldedTwiceIsFoldedOnce(t *testing.T) {
	sets, tests := 0, 0
	manyWastes(func(p impl.Prog) {
		q := impl.LiveFold(p)
		if !sameProg(impl.LiveFold(q), q) {
			t.Fatalf("%q: %q", impl.ProgWrite(p), impl.ProgWrite(q))
		}
		for at, s := range q.Steps {
			numbers := true
			eachUsed(&s, func(o *impl.Opnd) { numbers = numbers && o.Var == -1 })
			if numbers && (s.Kind == impl.StepSet || s.Kind == impl.StepTest) {
				t.Fatalf("%q: step %d: %q", impl.ProgWrite(p), at, impl.ProgWrite(q))
			}
			if s.Kind != p.Steps[at].Kind {
				sets += map[int]int{impl.StepCopy: 1}[s.Kind]
				tests += map[int]int{impl.StepSkip: 1}[s.Kind]
			}
		}
	})
	atLeast(t, 500, sets, tests)
}

// otherThanSkips is what each step of a path is that is no skip, without its ways.
func otherThanSkips(p impl.Prog, path []int) []impl.Step {
	var list []impl.Step
	for _, at := range path {
		if !isSkip(p.Steps[at]) {
			list = append(list, plain(p.Steps[at]))
		}
	}
	return list
}

// checkNoMoreSteps: the other program says what a run of so many steps says, and ends as it does, in as many steps as that has that are no skips; with as many steps it goes as far at least.
func checkNoMoreSteps(t *testing.T, p, q impl.Prog, in []int, most int) {
	t.Helper()
	r := impl.RunOf(p, in, most)
	did := otherThanSkips(p, r.Path)
	s := impl.RunOf(q, in, len(did))
	if s.Code != r.Code || !slices.Equal(s.Outs, r.Outs) || !slices.EqualFunc(otherThanSkips(q, s.Path), did, sameStep) {
		t.Fatalf("%q, %v, %d: %v, and of %q in %d steps %v", impl.ProgWrite(p), in, most, r, impl.ProgWrite(q), len(did), s)
	}
	far := impl.RunOf(q, in, most)
	if r.Code != impl.RunLong && (!sameResult(far, s) || len(far.Path) > len(r.Path)) || !begins(r.Outs, far.Outs) {
		t.Fatalf("%q, %v, %d: %v, and of %q %v", impl.ProgWrite(p), in, most, r, impl.ProgWrite(q), far)
	}
}

// skipRuns hands on programs with many skips, with inputs each.
func skipRuns(yield func(p impl.Prog, in []int)) {
	wasteRuns(yield)
	d := &dice{state: 141}
	manySkips(func(p impl.Prog) {
		yield(p, d.input())
	})
}

// Promise 72.
func TestWithoutSkipsItSaysTheSameInNoMoreSteps(t *testing.T) {
	d := &dice{state: 142}
	fewer := map[int]int{}
	skipRuns(func(p impl.Prog, in []int) {
		q := impl.LiveSkip(p)
		for _, most := range []int{d.roll(3), d.roll(40), impl.RunMax} {
			checkNoMoreSteps(t, p, q, in, most)
		}
		r, s := impl.RunOf(p, in, impl.RunMax), impl.RunOf(q, in, impl.RunMax)
		if len(s.Path) < len(r.Path) {
			fewer[r.Code]++
		}
	})
	atLeast(t, 300, fewer[impl.RunEnded], fewer[impl.RunDry])
}

// Promise 73.
func TestNoSkipIsLeftButSuchAsLeadRound(t *testing.T) {
	round, first, less := 0, 0, 0
	check := func(p impl.Prog) {
		q := impl.LiveSkip(p)
		if len(q.Steps) == 0 || !okByTable(q) {
			t.Fatalf("%q: %v", impl.ProgWrite(p), q)
		}
		for at, can := range reachWithout(q, -1) {
			if !can || isSkip(q.Steps[at]) && !leadsRound(q, at) {
				t.Fatalf("%q: step %d of %q", impl.ProgWrite(p), at, impl.ProgWrite(q))
			}
			if isSkip(q.Steps[at]) {
				round++
			}
		}
		if again := impl.LiveSkip(q); !sameProg(again, q) {
			t.Fatalf("%q: %q, and once more %q", impl.ProgWrite(p), impl.ProgWrite(q), impl.ProgWrite(again))
		}
		if isSkip(q.Steps[0]) {
			first++
		}
		if len(q.Steps) < len(p.Steps) {
			less++
		}
	}
	manySkips(check)
	smallWastes(check)
	atLeast(t, 2000, round, first, less)
}

// Promise 74.
func TestNoPassAddsAStep(t *testing.T) {
	check := func(p impl.Prog) {
		for name, pass := range livePasses() {
			q := pass(p)
			if !okByTable(q) || len(q.Steps) > len(p.Steps) || name != "skip" && len(q.Steps) < len(p.Steps) {
				t.Fatalf("%s %q: %q", name, impl.ProgWrite(p), impl.ProgWrite(q))
			}
		}
	}
	manyWastes(check)
	manySkips(check)
	d := &dice{state: 143}
	for size := 1; size <= impl.ProgMax; size++ {
		check(d.prog(size))
		check(d.alike(size))
	}
}

// Promise 75. Also against the program as it was before it was tidied.
func TestATidyProgramWithoutItsSkipsSaysTheSame(t *testing.T) {
	d := &dice{state: 144}
	tried, fewer := 0, 0
	skipRuns(func(p impl.Prog, in []int) {
		tidy, ok := impl.FlowTidy(p)
		if !ok {
			return
		}
		tried++
		q := impl.LiveSkip(tidy)
		for _, most := range []int{d.roll(40), impl.RunMax} {
			checkNoMoreSteps(t, tidy, q, in, most)
			checkNoMoreSteps(t, p, q, in, most)
		}
		if len(q.Steps) < len(tidy.Steps) {
			fewer++
		}
	})
	atLeast(t, 5000, tried, fewer)
}

// Promise 76.
func TestNothingIsNeededAtAnEnd(t *testing.T) {
	ends := 0
	manyWastes(func(p impl.Prog) {
		for at, list := range impl.LiveOf(p) {
			if p.Steps[at].Kind == impl.StepEnd {
				ends++
				if slices.Contains(list, true) {
					t.Fatalf("%q: step %d: %s", impl.ProgWrite(p), at, row(list))
				}
			}
		}
	})
	atLeast(t, 3000, ends)
}

// All passes, in any order: what is said stays as it was.
func TestPassesSayTheSame(t *testing.T) {
	d := &dice{state: 145}
	shorter := 0
	wasteRuns(func(p impl.Prog, in []int) {
		var names []string
		for range d.roll(impl.PassMax + 1) {
			names = append(names, passNames[1+d.roll(len(passNames)-1)])
		}
		q, ok := impl.PassAll(p, names)
		if !ok {
			t.Fatalf("%q, %q: not done", impl.ProgWrite(p), names)
		}
		r, s := impl.RunOf(p, in, impl.RunMax), impl.RunOf(q, in, impl.RunMax)
		if r.Code != impl.RunLong && (s.Code != r.Code || !slices.Equal(s.Outs, r.Outs) || len(s.Path) > len(r.Path)) || !begins(r.Outs, s.Outs) {
			t.Fatalf("%q, %v: %v, and by %q %q: %v", impl.ProgWrite(p), in, r, names, impl.ProgWrite(q), s)
		}
		if len(s.Path) < len(r.Path) {
			shorter++
		}
	})
	atLeast(t, 1000, shorter)
}

func TestNothingIsNeededOfAProgramThatIsNotOk(t *testing.T) {
	for _, p := range wrongReckoners() {
		if live := impl.LiveOf(p); len(live) != 0 {
			t.Fatalf("%v: %s", p, rows(live))
		}
		for name, pass := range livePasses() {
			if q := pass(p); len(q.Steps) != 0 {
				t.Fatalf("%s %v: %v", name, p, q)
			}
		}
	}
}
