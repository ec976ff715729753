package tests

import (
	"slices"
	"testing"

	"loop.example/causey/impl"
)

// matterTold is what the sentences name, as the program itself tells it.
func matterTold(p impl.Prog, e impl.Expr) matter {
	return matter{p: p, reach: impl.FlowReach(p), ahead: impl.FlowPreds(p), reckons: impl.ExprComp(p, e), keeps: impl.ExprKeeps(p, e)}
}

// checkSaid: a row tells of each step whether a sentence is true of it, and it can be come to.
func checkSaid(t *testing.T, m matter, e impl.Expr, list []bool, said func(at int) bool) {
	t.Helper()
	if want := m.each(said); !slices.Equal(list, want) {
		t.Fatalf("%q, %s: %s, not %s", impl.ProgWrite(m.p), exprSaid(e), row(list), row(want))
	}
}

// checkGreatest: the row fits, and nothing greater does. From all steps that can be come to those of which the sentence is not true are left out, until it is true of all; no step of what fits is ever left out so.
func checkGreatest(t *testing.T, m matter, e impl.Expr, list []bool, said func(at int, so []bool) bool) {
	t.Helper()
	so := slices.Clone(m.reach)
	for range so {
		so = m.each(func(at int) bool { return so[at] && said(at, so) })
	}
	if !m.fits(list, said) || !slices.Equal(list, so) {
		t.Fatalf("%q, %s: %s, but %s fits", impl.ProgWrite(m.p), exprSaid(e), row(list), row(so))
	}
}

// Promise 32.
func TestSafeDownIsSoJustIfItIsReckonedOrKept(t *testing.T) {
	manyMovers(func(p impl.Prog, e impl.Expr) {
		m, down := matterTold(p, e), impl.SafeDown(p, e)
		checkSaid(t, m, e, down, func(at int) bool { return m.saidDown(at, down) })
		checkGreatest(t, m, e, down, m.saidDown)
	})
}

// Promise 33.
func TestSafeUpIsSoJustIfEachAheadKeepsIt(t *testing.T) {
	manyMovers(func(p impl.Prog, e impl.Expr) {
		m, up := matterTold(p, e), impl.SafeUp(p, e)
		checkSaid(t, m, e, up, func(at int) bool { return m.saidUp(at, up) })
		checkGreatest(t, m, e, up, m.saidUp)
	})
}

// Promise 34.
func TestSafeEarlyIsSoOnlyWhereSafeDownIs(t *testing.T) {
	first, other := 0, 0
	manyMovers(func(p impl.Prog, e impl.Expr) {
		m, down, up, early := matterTold(p, e), impl.SafeDown(p, e), impl.SafeUp(p, e), impl.SafeEarly(p, e)
		if early[0] != down[0] {
			t.Fatalf("%q, %s: early %s, down %s", impl.ProgWrite(p), exprSaid(e), row(early), row(down))
		}
		for at, yes := range early {
			if yes && !down[at] {
				t.Fatalf("%q, %s: step %d: early %s, down %s", impl.ProgWrite(p), exprSaid(e), at, row(early), row(down))
			}
			if yes && at == 0 {
				first++
			} else if yes {
				other++
			}
		}
		checkSaid(t, m, e, early, func(at int) bool { return m.saidEarly(at, down, up) })
	})
	if first < 1000 || other < 1000 {
		t.Errorf("only %d of the first, %d of others", first, other)
	}
}

// Promise 35.
func TestSafeDelayIsSoJustFromEarliestPlacesOn(t *testing.T) {
	put := 0
	manyMovers(func(p impl.Prog, e impl.Expr) {
		m, early, delay := matterTold(p, e), impl.SafeEarly(p, e), impl.SafeDelay(p, e)
		said := func(at int, so []bool) bool { return m.saidDelay(at, early, so) }
		checkSaid(t, m, e, delay, func(at int) bool { return said(at, delay) })
		checkGreatest(t, m, e, delay, said)
		for at, yes := range delay {
			if early[at] && !yes {
				t.Fatalf("%q, %s: step %d is early, but not to be put off: %s", impl.ProgWrite(p), exprSaid(e), at, row(delay))
			}
			if yes && !early[at] {
				put++
			}
		}
	})
	if put < 1000 {
		t.Errorf("only %d put off", put)
	}
}

// Promise 36.
func TestSafeLateIsSoJustWhereItCannotBePutOff(t *testing.T) {
	manyMovers(func(p impl.Prog, e impl.Expr) {
		m, delay, late := matterTold(p, e), impl.SafeDelay(p, e), impl.SafeLate(p, e)
		checkSaid(t, m, e, late, func(at int) bool { return m.saidLate(at, delay) })
	})
}

// The document has no promise of SafeAlone alone; its sentence holds all the same.
func TestSafeAloneIsSoJustUpToTheNextLatestPlace(t *testing.T) {
	manyMovers(func(p impl.Prog, e impl.Expr) {
		m, late, alone := matterTold(p, e), impl.SafeLate(p, e), impl.SafeAlone(p, e)
		said := func(at int, so []bool) bool { return m.saidAlone(at, late, so) }
		checkSaid(t, m, e, alone, func(at int) bool { return said(at, alone) })
		checkGreatest(t, m, e, alone, said)
	})
}

// Promise 37.
func TestNothingAheadOfTheFirstStep(t *testing.T) {
	backs, lost := 0, 0
	manyMovers(func(p impl.Prog, e impl.Expr) {
		s, m := safeOf(p, e), matterTold(p, e)
		if s.up[0] {
			t.Fatalf("%q, %s: it was reckoned ahead of the first step", impl.ProgWrite(p), exprSaid(e))
		}
		// All ways back to the first step come from where it was reckoned.
		if len(m.ahead[0]) > 0 && !someOf(m.ahead[0], func(from int) bool { return !m.keeps[from] || !m.reckons[from] && !s.up[from] }) {
			backs++
		}
		for i, list := range s.rows() {
			if len(list) != len(p.Steps) {
				t.Fatalf("%q, %s: row %d: %s", impl.ProgWrite(p), exprSaid(e), i, row(list))
			}
			for at, yes := range list {
				if yes && !m.reach[at] {
					t.Fatalf("%q, %s: row %d: %s: nobody comes to %d", impl.ProgWrite(p), exprSaid(e), i, row(list), at)
				}
			}
		}
		for at, can := range m.reach {
			if !can && m.reckons[at] {
				lost++
			}
		}
	})
	if backs < 100 || lost < 1000 {
		t.Errorf("only %d back to the first, %d that reckon and cannot be come to", backs, lost)
	}
}

// Steps that cannot be come to do not matter: without them the others are told the same.
func TestWhatCannotBeComeToDoesNotMatter(t *testing.T) {
	d := &dice{state: 67}
	greatMovers(2, impl.ProgMax-6, 2, func(p impl.Prog, e impl.Expr) {
		q := d.strayed(p, e)
		before, after := safeOf(p, e).rows(), safeOf(q, e).rows()
		for i := range before {
			if !slices.Equal(after[i][:len(p.Steps)], before[i]) || slices.Contains(after[i][len(p.Steps):], true) {
				t.Fatalf("%q, %s: row %d: %s, not %s", impl.ProgWrite(q), exprSaid(e), i, row(after[i]), row(before[i]))
			}
		}
	})
}

// strayed has some steps more at the end, if there is room, that cannot be come to, lead to the others, and have to do with the reckoning.
func (d *dice) strayed(p impl.Prog, e impl.Expr) impl.Prog {
	q := cloneProg(p)
	for range 1 + d.roll(6) {
		if len(q.Steps) < impl.ProgMax {
			q.Steps = append(q.Steps, impl.Step{Kind: impl.StepSkip, Next: []int{d.roll(len(p.Steps))}})
		}
	}
	q = d.about(q, e, 6, 10)
	copy(q.Steps, cloneProg(p).Steps)
	return q
}

// What is told holds on runs: where SafeUp is so it comes to what a step reckoned that was come to ahead, and where SafeDown is so to what the next step that reckons it does, if the run comes that far.
func TestWhereItIsSafeOnRuns(t *testing.T) {
	d := &dice{state: 68}
	ups, downs := 0, 0
	greatMovers(2, impl.ProgMax, 3, func(p impl.Prog, e impl.Expr) {
		m, s := matterOf(p, e), safeOf(p, e)
		path := impl.RunOf(p, slices.Repeat(d.input(), 20), impl.RunMax).Path
		known := false
		for i, at := range path {
			if s.up[at] {
				ups++
				if !known {
					t.Fatalf("%q, %s: not reckoned ahead of %d on %v", impl.ProgWrite(p), exprSaid(e), at, path[:i+1])
				}
			}
			known = (known || m.reckons[at]) && m.keeps[at]
		}
		needed := false
		for i, at := range slices.Backward(path) {
			last := i == len(path)-1
			needed = m.reckons[at] || m.keeps[at] && (needed || last && p.Steps[at].Kind != impl.StepEnd)
			if s.down[at] {
				downs++
				if !needed {
					t.Fatalf("%q, %s: not reckoned behind %d on %v", impl.ProgWrite(p), exprSaid(e), at, path[i:])
				}
			}
		}
	})
	if ups < 1000 || downs < 1000 {
		t.Errorf("only %d up, %d down", ups, downs)
	}
}
