package tests

import (
	"slices"
	"testing"

	"loop.example/causey/impl"
)

// placesTold are the ways of moving that the program tells, and that at all latest places.
func placesTold(p impl.Prog, e impl.Expr) map[string]impl.Place {
	reckoners := impl.ExprComp(p, e)
	for at, can := range impl.FlowReach(p) {
		reckoners[at] = reckoners[at] && can
	}
	return map[string]impl.Place{
		"none":   impl.PlaceNone(p, e),
		"busy":   impl.PlaceBusy(p, e),
		"lazy":   impl.PlaceLazy(p, e),
		"latest": {Puts: impl.SafeLate(p, e), Takes: reckoners},
	}
}

// Promises 38 and 44, as far as they tell what is admissible.
func TestWaysOfMovingThatAreAdmissible(t *testing.T) {
	counts := map[string]int{}
	check := func(p impl.Prog, e impl.Expr) {
		tidy := impl.FlowIsTidy(p)
		for name, x := range placesTold(p, e) {
			if (tidy || name == "none" || name == "busy") && !impl.PlaceOk(p, e, x) {
				t.Fatalf("%q, %s: %s is not admissible: %s", impl.ProgWrite(p), exprSaid(e), name, placeRows(x))
			}
			if tidy && slices.Contains(x.Puts, true) {
				counts[name]++
			}
		}
	}
	manyMovers(check)
	runMovers(1, impl.ProgMax, 2, check)
	if counts["none"] > 0 || counts["busy"] < 1000 || counts["lazy"] < 1000 || counts["latest"] < 1000 {
		t.Error(counts)
	}
}

// movings hands on programs with each way of moving, also such as the program lets pass, and what PlaceDo makes of them with a variable that is free.
func movings(t *testing.T, from, to, times int, yield func(p impl.Prog, e impl.Expr, w wayOfMoving, keep int, q impl.Prog)) {
	t.Helper()
	d := &dice{state: 81}
	runMovers(from, to, times, func(p impl.Prog, e impl.Expr) {
		s, vars := sceneOf(p, e), free(p, e)
		list := d.waysOfMoving(s)
		for range 2 {
			if x := d.anyPlace(s); impl.PlaceOk(p, e, x) {
				list = append(list, wayOfMoving{"any", x})
			}
		}
		for _, w := range list {
			if len(vars) == 0 || len(p.Steps)+countOf(w.Puts) > impl.ProgMax {
				continue
			}
			keep := vars[d.roll(len(vars))]
			q, ok := impl.PlaceDo(p, e, w.Place, keep)
			if !ok {
				t.Fatalf("%q, %s: %s, v%d: not moved", impl.ProgWrite(p), exprSaid(e), placeRows(w.Place), keep)
			}
			yield(p, e, w, keep, q)
		}
	})
}

// behindOwn is behind how many steps of a moved program's path so many of the program's own are done, all if there are not so many.
func behindOwn(x impl.Place, path []int, most int) int {
	own := ownPlaces(x)
	for i, at := range path {
		if most == 0 {
			return i
		}
		if own[at] >= 0 {
			most--
		}
	}
	return len(path)
}

// checkSameRun: as far as a run of so many steps goes, what is moved comes to the same steps, lets out the same, and ends the same.
func checkSameRun(t *testing.T, p impl.Prog, x impl.Place, q impl.Prog, in []int, most int) impl.Result {
	t.Helper()
	r := impl.RunOf(p, in, most)
	behind := behindOwn(x, impl.RunOf(q, in, impl.RunMax).Path, len(r.Path))
	s := impl.RunOf(q, in, behind)
	if s.Code != r.Code || !slices.Equal(s.Outs, r.Outs) || !slices.Equal(ownPath(x, s.Path), r.Path) {
		t.Fatalf("%q, %s, %v, %d: %v, and moved %q: %v", impl.ProgWrite(p), placeRows(x), in, most, r, impl.ProgWrite(q), s)
	}
	return s
}

// inputsOf are inputs of several kinds: none, few, many.
func (d *dice) inputsOf() [][]int {
	some := append(d.input(), 7, 40000, 3)
	return [][]int{nil, d.input(), some, slices.Repeat(some, 30)}
}

// Promise 39.
func TestWhatIsMovedSaysTheSame(t *testing.T) {
	d := &dice{state: 82}
	counts := map[string]int{}
	movings(t, 1, impl.ProgMax, 2, func(p impl.Prog, e impl.Expr, w wayOfMoving, keep int, q impl.Prog) {
		for _, in := range d.inputsOf() {
			s := checkSameRun(t, p, w.Place, q, in, 250)
			checkSameRun(t, p, w.Place, q, in, d.roll(251))
			if len(s.Path) > 250 {
				counts["long"]++
			}
			for at, put := range w.Puts {
				if put && slices.Contains(s.Path, at) {
					counts[w.name]++
					break
				}
			}
		}
	})
	for _, name := range []string{"busy", "lazy", "latest", "all", "here and there", "any", "long"} {
		if counts[name] < 500 {
			t.Errorf("%s: only %d", name, counts[name])
		}
	}
}

// changers are steps of small programs that let out, reckon, change an operand, or lead on by one.
func changers(e impl.Expr, size int) []impl.Step {
	steps := []impl.Step{{Kind: impl.StepEnd}}
	for a := range size {
		for _, s := range []impl.Step{
			{Kind: impl.StepOut, A: variable(idleVar)},
			{Kind: impl.StepSet, Dst: idleVar, Op: e.Op, A: e.A, B: e.B},
			{Kind: impl.StepSet, Dst: e.B.Var, Op: e.Op, A: e.A, B: e.B},
			{Kind: impl.StepIn, Dst: e.B.Var},
			{Kind: impl.StepTest, A: e.B, Next: []int{(a + 1) % size}},
		} {
			s.Next = append(s.Next, a)
			steps = append(steps, s)
		}
	}
	return steps
}

// Promise 39, of all small programs: whatever way of moving the program lets pass is tried, each way once in some of them.
func TestWhatIsMovedSaysTheSameInSmallPrograms(t *testing.T) {
	// It is not 0 at the beginning, but what is kept is.
	e := movables()[2]
	turn, tried := 0, 0
	check := func(p impl.Prog) {
		turn++
		way := turn
		eachPlace(len(p.Steps), func(x impl.Place) {
			way++
			if len(p.Steps) > 2 && way%5 > 0 {
				return
			}
			q, ok := impl.PlaceDo(p, e, x, 4)
			if ok != impl.PlaceOk(p, e, x) {
				t.Fatalf("%q: %s: %v", impl.ProgWrite(p), placeRows(x), ok)
			}
			if !ok {
				return
			}
			tried++
			for _, in := range [][]int{nil, {9, 2, 65535, 0, 4}} {
				checkSameRun(t, p, x, q, in, 50)
			}
		})
	}
	for size := 1; size <= 3; size++ {
		eachOf(changers(e, size), make([]impl.Step, size), 0, check)
	}
	if tried < 1000 {
		t.Errorf("only %d", tried)
	}
}

// Promise 40.
func TestWhatIsKeptIsTheReckoning(t *testing.T) {
	d := &dice{state: 83}
	taken, telling := 0, 0
	movings(t, 1, impl.ProgMax, 2, func(p impl.Prog, e impl.Expr, w wayOfMoving, keep int, q impl.Prog) {
		own := ownPlaces(w.Place)
		for _, in := range d.inputsOf() {
			watched(q, in, func(place int, value func(o impl.Opnd) uint16) {
				if own[place] < 0 || !w.Takes[own[place]] {
					return
				}
				want := opByWrap(e.Op, value(e.A), value(e.B))
				if got := value(variable(keep)); got != want || value(q.Steps[place].A) != want {
					t.Fatalf("%q, %s: %s, v%d, %v: step %d takes %d, not %d", impl.ProgWrite(p), exprSaid(e), placeRows(w.Place), keep, in, own[place], got, want)
				}
				taken++
				if want != 0 {
					telling++
				}
			})
		}
	})
	if taken < 10000 || telling < 5000 {
		t.Errorf("only %d taken, %d of them not 0", taken, telling)
	}
}

// Promise 41.
func TestWhoTakesLessIsAdmissibleStill(t *testing.T) {
	d := &dice{state: 84}
	tried := 0
	check := func(p impl.Prog, e impl.Expr) {
		for _, w := range d.waysOfMoving(sceneOf(p, e)) {
			if !impl.PlaceOk(p, e, w.Place) {
				t.Fatalf("%q, %s: %s %s is not admissible", impl.ProgWrite(p), exprSaid(e), w.name, placeRows(w.Place))
			}
			less := []impl.Place{{Puts: w.Puts, Takes: make([]bool, len(w.Takes))}, clonePlace(w.Place), clonePlace(w.Place)}
			for at := range w.Takes {
				less[1].Takes[at] = w.Takes[at] && d.roll(2) == 0
			}
			if at := slices.Index(w.Takes, true); at >= 0 {
				less[2].Takes[at] = false
				tried++
			}
			for _, x := range less {
				if !impl.PlaceOk(p, e, x) {
					t.Fatalf("%q, %s: %s is admissible, %s is not", impl.ProgWrite(p), exprSaid(e), placeRows(w.Place), placeRows(x))
				}
			}
		}
	}
	runMovers(1, impl.ProgMax, 2, check)
	if tried < 1000 {
		t.Errorf("only %d", tried)
	}
}

// Promise 42. That it is the least that fits: from none on those come in of which it must be so.
func TestPlaceLiveIsSoJustUpToWhoTakes(t *testing.T) {
	d := &dice{state: 85}
	check := func(p impl.Prog, e impl.Expr) {
		s := sceneOf(p, e)
		for _, x := range []impl.Place{d.anyPlace(s), impl.PlaceLazy(p, e), impl.PlaceBusy(p, e)} {
			live, so := impl.PlaceLive(p, e, x), make([]bool, len(p.Steps))
			for range so {
				for at := range so {
					so[at] = so[at] || s.saidLive(at, x, so)
				}
			}
			for at := range so {
				if live[at] != s.saidLive(at, x, live) || live[at] != so[at] {
					t.Fatalf("%q, %s: %s: step %d: %s, and %s must be", impl.ProgWrite(p), exprSaid(e), placeRows(x), at, row(live), row(so))
				}
			}
		}
	}
	smallMovers(check)
	runMovers(1, impl.ProgMax, 2, check)
}

// among says whether one row is so nowhere where another one is not.
func among(row, other []bool) bool {
	for at, yes := range row {
		if yes && !other[at] {
			return false
		}
	}
	return true
}

// Promises 43 and 44.
func TestWhatIsKeptIsNeededNoLonger(t *testing.T) {
	shorter, alone := 0, 0
	tidyMovers(func(p impl.Prog, e impl.Expr) {
		x := placesTold(p, e)
		lazy, latest, busy := impl.PlaceLive(p, e, x["lazy"]), impl.PlaceLive(p, e, x["latest"]), impl.PlaceLive(p, e, x["busy"])
		if !among(lazy, busy) || !among(latest, busy) || !among(lazy, latest) {
			t.Fatalf("%q, %s: needed by lazy %s, latest %s, busy %s", impl.ProgWrite(p), exprSaid(e), row(lazy), row(latest), row(busy))
		}
		if countOf(lazy) < countOf(busy) {
			shorter++
		}
		if !samePlace(x["lazy"], x["latest"]) {
			alone++
		}
	})
	if shorter < 1000 || alone < 1000 {
		t.Errorf("only %d are needed shorter, %d are otherwise than at all latest places", shorter, alone)
	}
}

// endless is from which steps no way leads to an end.
func endless(p impl.Prog) []bool {
	list := make([]bool, len(p.Steps))
	for at := range list {
		list[at] = !comes(at, func(at int) bool { return p.Steps[at].Kind == impl.StepEnd }, func(at int) []int { return p.Steps[at].Next })
	}
	return list
}

// Promise 45.
func TestNothingIsPutWhereNobodyTakesIt(t *testing.T) {
	puts := map[string]int{}
	tidyMovers(func(p impl.Prog, e impl.Expr) {
		lost := endless(p)
		for name, x := range placesTold(p, e) {
			live := impl.PlaceLive(p, e, x)
			for at, put := range x.Puts {
				if !put {
					continue
				}
				puts[name]++
				if !x.Takes[at] && !lost[at] && !someOf(p.Steps[at].Next, func(next int) bool { return live[next] }) {
					t.Fatalf("%q, %s: %s: nobody takes what is put at %d: %s", impl.ProgWrite(p), exprSaid(e), name, at, placeRows(x))
				}
			}
		}
	})
	if puts["busy"] < 1000 || puts["lazy"] < 1000 || puts["latest"] < 1000 {
		t.Error(puts)
	}
}

// Promise 46.
func TestAWayOfMovingHasAYesOrNoForEachStep(t *testing.T) {
	check := func(p impl.Prog, e impl.Expr) {
		for name, x := range placesTold(p, e) {
			if len(x.Puts) != len(p.Steps) || len(x.Takes) != len(p.Steps) || name == "none" && (countOf(x.Puts) > 0 || countOf(x.Takes) > 0) {
				t.Fatalf("%q, %s: %s: %s", impl.ProgWrite(p), exprSaid(e), name, placeRows(x))
			}
		}
	}
	manyMovers(check)
	d := &dice{state: 86}
	for size := 1; size <= impl.ProgMax; size++ {
		p := d.alike(size)
		for _, e := range asked(p) {
			check(p, e)
		}
	}
}

// Promises 47 and 48.
func TestMovingAddsAsManyStepsAsThereArePlaces(t *testing.T) {
	added := map[int]int{}
	movings(t, 1, impl.ProgMax, 2, func(p impl.Prog, e impl.Expr, w wayOfMoving, keep int, q impl.Prog) {
		if len(q.Steps) != len(p.Steps)+countOf(w.Puts) {
			t.Fatalf("%q, %s: %s: %q", impl.ProgWrite(p), exprSaid(e), placeRows(w.Place), impl.ProgWrite(q))
		}
		added[len(q.Steps)-len(p.Steps)]++
		if w.name == "none" && !sameProg(p, q) {
			t.Fatalf("%q, %s: to move nothing makes %q", impl.ProgWrite(p), exprSaid(e), impl.ProgWrite(q))
		}
	})
	for _, count := range []int{0, 1, 2, 5, 12} {
		if added[count] < 10 {
			t.Errorf("only %d of %d steps more", added[count], count)
		}
	}
}

// Promise 48, of programs of each size, also the greatest.
func TestToMoveNothingChangesNothing(t *testing.T) {
	d := &dice{state: 87}
	tried := 0
	for size := 1; size <= impl.ProgMax; size++ {
		for _, p := range []impl.Prog{d.alike(size), d.runner(size), d.strewn(d.loopy(size)), d.prog(size)} {
			for _, e := range asked(p) {
				vars, none := free(p, e), impl.PlaceNone(p, e)
				for _, keep := range vars {
					if q, ok := impl.PlaceDo(p, e, none, keep); !ok || !sameProg(p, q) {
						t.Fatalf("%q, %s, v%d: %v %q", impl.ProgWrite(p), exprSaid(e), keep, ok, impl.ProgWrite(q))
					}
					tried++
				}
			}
		}
	}
	if tried < 1000 {
		t.Errorf("only %d", tried)
	}
}

// Steps that cannot be come to put and take nothing, and what is told of the others does not hang on them.
func TestWhatCannotBeComeToMovesNothing(t *testing.T) {
	d := &dice{state: 88}
	runMovers(2, impl.ProgMax-6, 2, func(p impl.Prog, e impl.Expr) {
		q := d.strayed(p, e)
		if len(q.Steps) == len(p.Steps) {
			return
		}
		longer := func(list []bool) []bool {
			return append(slices.Clone(list), make([]bool, len(q.Steps)-len(p.Steps))...)
		}
		before, after := placesTold(p, e), placesTold(q, e)
		for name, x := range before {
			if y := after[name]; !samePlace(y, impl.Place{Puts: longer(x.Puts), Takes: longer(x.Takes)}) || impl.PlaceOk(q, e, y) != impl.PlaceOk(p, e, x) {
				t.Fatalf("%q, %s: %s: %s, not %s", impl.ProgWrite(q), exprSaid(e), name, placeRows(y), placeRows(x))
			}
		}
		x := impl.Place{Puts: longer(before["busy"].Puts), Takes: longer(before["busy"].Takes)}
		at := len(p.Steps) + d.roll(len(q.Steps)-len(p.Steps))
		x.Puts[at] = true
		if impl.PlaceOk(q, e, x) {
			t.Fatalf("%q, %s: put at %d, to which nobody comes", impl.ProgWrite(q), exprSaid(e), at)
		}
		x.Puts[at], x.Takes[at] = false, true
		if impl.PlaceOk(q, e, x) {
			t.Fatalf("%q, %s: taken at %d, to which nobody comes", impl.ProgWrite(q), exprSaid(e), at)
		}
	})
}
