package tests

import (
	"slices"
	"testing"

	"loop.example/causey/impl"
)

// checkAlong holds a sentence at each place of many paths: `is` says where it is to be held, `holds` whether it does.
func checkAlong(t *testing.T, what string, s scene, path []int, is, holds func(i int) bool) int {
	t.Helper()
	count := 0
	for i, at := range path {
		if !is(i) {
			continue
		}
		count++
		if !holds(i) {
			t.Fatalf("%q, %s: %s: step %d at %d of %v", impl.ProgWrite(s.p), exprSaid(s.e), what, at, i, path)
		}
	}
	return count
}

// atLeast: so many places are enough to tell.
func atLeast(t *testing.T, want int, counts ...int) {
	t.Helper()
	for _, count := range counts {
		if count < want {
			t.Errorf("only %v", counts)
			return
		}
	}
}

// Promise 49.
func TestWhatStandsOnEachWayIsAhead(t *testing.T) {
	places, others := 0, 0
	manyPaths(func(s scene, paths [][]int) {
		doms := impl.FlowDoms(s.p)
		for _, path := range paths {
			places += checkAlong(t, "not all that stands on each way is ahead", s, path, func(i int) bool { return true }, func(i int) bool {
				for over, yes := range doms[path[i]] {
					if yes && !slices.Contains(path[:i+1], over) {
						return false
					}
				}
				return true
			})
		}
		others += countOf(doms[paths[0][len(paths[0])-1]]) - 1
	})
	atLeast(t, 10000, places, others)
}

// Promise 50.
func TestWhereSafeDownIsItIsReckonedBehind(t *testing.T) {
	places, later := 0, 0
	manyPaths(func(s scene, paths [][]int) {
		down := impl.SafeDown(s.p, s.e)
		for _, path := range paths {
			places += checkAlong(t, "not reckoned behind", s, path, func(i int) bool { return down[path[i]] }, func(i int) bool {
				for _, at := range path[i:] {
					if s.reckons[at] {
						return true
					}
					if !s.keeps[at] {
						return false
					}
					later++
				}
				return false
			})
		}
	})
	atLeast(t, 10000, places, later)
}

// Promise 51.
func TestWhereSafeUpIsItWasReckonedAhead(t *testing.T) {
	places, sooner := 0, 0
	manyPaths(func(s scene, paths [][]int) {
		up := impl.SafeUp(s.p, s.e)
		for _, path := range paths {
			places += checkAlong(t, "not reckoned ahead", s, path, func(i int) bool { return up[path[i]] }, func(i int) bool {
				for _, at := range slices.Backward(path[:i]) {
					if !s.keeps[at] {
						return false
					}
					if s.reckons[at] {
						return true
					}
					sooner++
				}
				return false
			})
		}
	})
	atLeast(t, 10000, places, sooner)
}

// placeAhead says whether a place of a path has one of these at it or ahead, and nothing changes between.
func (s scene) placeAhead(path []int, i int, these []bool) bool {
	for !these[path[i]] {
		if i == 0 || !s.keeps[path[i-1]] {
			return false
		}
		i--
	}
	return true
}

// Promise 52.
func TestWhoReckonsHasAnEarliestPlaceAhead(t *testing.T) {
	places := 0
	manyPaths(func(s scene, paths [][]int) {
		early := impl.SafeEarly(s.p, s.e)
		for _, path := range paths {
			places += checkAlong(t, "no earliest place ahead", s, path, func(i int) bool { return s.reckons[path[i]] }, func(i int) bool {
				return s.placeAhead(path, i, early)
			})
		}
	})
	atLeast(t, 10000, places)
}

// Promise 53.
func TestAheadOfAnEarliestPlace(t *testing.T) {
	changed, unsafe := 0, 0
	tidyPaths(func(s scene, paths [][]int) {
		down, up, early := impl.SafeDown(s.p, s.e), impl.SafeUp(s.p, s.e), impl.SafeEarly(s.p, s.e)
		for _, path := range paths {
			checkAlong(t, "the step ahead of an earliest place keeps it, and is safe", s, path, func(i int) bool { return i > 0 && early[path[i]] }, func(i int) bool {
				from := path[i-1]
				if !s.keeps[from] {
					changed++
					return true
				}
				unsafe++
				return !down[from] && !up[from]
			})
		}
	})
	atLeast(t, 500, changed, unsafe)
}

// Promise 54.
func TestWhoReckonsHasALatestPlaceAhead(t *testing.T) {
	places := 0
	tidyPaths(func(s scene, paths [][]int) {
		late := impl.SafeLate(s.p, s.e)
		for _, path := range paths {
			places += checkAlong(t, "no latest place ahead", s, path, func(i int) bool { return s.reckons[path[i]] }, func(i int) bool {
				return s.placeAhead(path, i, late)
			})
		}
	})
	atLeast(t, 10000, places)
}

// Promise 55.
func TestBehindALatestPlaceForOneStepAlone(t *testing.T) {
	places, next := 0, 0
	tidyPaths(func(s scene, paths [][]int) {
		late, alone := impl.SafeLate(s.p, s.e), impl.SafeAlone(s.p, s.e)
		for _, path := range paths {
			places += checkAlong(t, "another step reckons it before the next latest place", s, path, func(i int) bool { return late[path[i]] && alone[path[i]] }, func(i int) bool {
				for _, at := range path[i+1:] {
					if late[at] {
						next++
						return true
					}
					if s.reckons[at] {
						return false
					}
				}
				return true
			})
		}
	})
	atLeast(t, 500, places, next)
}

// Promise 56.
func TestWhatPathOfTellsIsAPath(t *testing.T) {
	paths := 0
	manyChoices(func(p impl.Prog, choices []bool) {
		path, ok := impl.PathOf(p, choices)
		if !ok {
			if len(path) != 0 {
				t.Fatalf("%q, %s: no path, and %v", impl.ProgWrite(p), row(choices), path)
			}
			return
		}
		paths++
		if !impl.PathOk(p, path) || !isPathByNodes(p, path) {
			t.Fatalf("%q, %s: %v is no path", impl.ProgWrite(p), row(choices), path)
		}
	})
	atLeast(t, 10000, paths)
}

// And each path is told by some choices: those by which one goes it, and whatever comes behind them.
func TestEachPathIsToldByChoices(t *testing.T) {
	d := &dice{state: 98}
	told := 0
	manyPaths(func(s scene, paths [][]int) {
		for _, path := range paths {
			choices := choicesOf(s.p, path)
			for range 2 {
				if got, ok := impl.PathOf(s.p, choices); !ok || !slices.Equal(got, path) {
					t.Fatalf("%q, %s: %v %v, not %v", impl.ProgWrite(s.p), row(choices), ok, got, path)
				}
				choices = append(choices, d.roll(2) == 0, d.roll(2) == 0)
			}
			told++
		}
	})
	atLeast(t, 10000, told)
}

// Promise 57. What is held at each place of numbers is whether it may come behind the one ahead.
func TestAPathIsJustWhatMayComeBehind(t *testing.T) {
	d := &dice{state: 99}
	counts := map[string]int{}
	manyPaths(func(s scene, paths [][]int) {
		for _, path := range paths {
			for _, other := range append(d.nearlyPaths(s.p, path), path, d.wander(s.p, 201), nil) {
				why := whyNoPath(s.p, other)
				if impl.PathOk(s.p, other) != (why == "") {
					t.Fatalf("%q: %v: %q", impl.ProgWrite(s.p), other, why)
				}
				counts[why]++
			}
		}
	})
	for _, why := range []string{"", "empty", "too long", "first", "no way", "no step", "no end"} {
		if counts[why] < 100 {
			t.Errorf("%q: only %d", why, counts[why])
		}
	}
}

// whyNoPath is what is wrong with numbers, as the document says what a path is; empty, if they are one.
func whyNoPath(p impl.Prog, path []int) string {
	why := ""
	for i, at := range path {
		switch {
		case at < 0 || at >= len(p.Steps):
			return "no step"
		case i == 0 && at != 0:
			return "first"
		case i > 0 && !slices.Contains(p.Steps[path[i-1]].Next, at):
			why = "no way"
		}
	}
	switch {
	case len(path) == 0:
		return "empty"
	case why != "":
		return why
	case len(path) > 200:
		return "too long"
	case p.Steps[path[len(path)-1]].Kind != impl.StepEnd:
		return "no end"
	}
	return ""
}

// checkCounts: on a path as late as can be is as often as as early as can be, and as at all latest places, and not more often than any of these ways.
func checkCounts(t *testing.T, s scene, path []int, others []impl.Place) int {
	t.Helper()
	p, e := s.p, s.e
	x := placesTold(p, e)
	lazy := impl.PathCount(p, e, x["lazy"], path)
	if lazy < 0 || lazy != impl.PathCount(p, e, x["busy"], path) || lazy != impl.PathCount(p, e, x["latest"], path) || lazy != impl.PathBest(p, e, path) {
		t.Fatalf("%q, %s: %v: lazy %d, busy %d, latest %d, at least %d", impl.ProgWrite(p), exprSaid(e), path, lazy, impl.PathCount(p, e, x["busy"], path), impl.PathCount(p, e, x["latest"], path), impl.PathBest(p, e, path))
	}
	for _, y := range others {
		if count := impl.PathCount(p, e, y, path); count < lazy {
			t.Fatalf("%q, %s: %v: lazy %d, but by %s %d", impl.ProgWrite(p), exprSaid(e), path, lazy, placeRows(y), count)
		}
	}
	return lazy
}

// Promises 58 to 60, with ways of moving of each kind.
func TestNoPathReckonsMoreOftenThanItMust(t *testing.T) {
	d := &dice{state: 100}
	better, worse, same := 0, 0, 0
	tidyPaths(func(s scene, paths [][]int) {
		var others []impl.Place
		for _, w := range d.waysOfMoving(s) {
			others = append(others, w.Place)
		}
		for _, path := range paths {
			least := checkCounts(t, s, path, others)
			for _, x := range others[1:] {
				if impl.PathCount(s.p, s.e, x, path) > least {
					worse++
				} else {
					same++
				}
			}
			// Promise 60: others[0] moves nothing.
			if impl.PathCount(s.p, s.e, others[0], path) > least {
				better++
			}
		}
	})
	atLeast(t, 1000, better, worse, same)
}

// eachAdmissible hands on each admissible way of moving a small program's reckoning that takes it wherever that can be: whoever takes less reckons more often.
func (s scene) eachAdmissible(yield func(x impl.Place)) {
	eachRow(len(s.reach), func(puts []bool) {
		for at, put := range puts {
			if put && !s.canPut(at) {
				return
			}
		}
		held := s.held(puts)
		yield(impl.Place{Puts: puts, Takes: s.each(func(at int) bool { return s.reckons[at] && held[at] })})
	})
}

// Promise 58, of small tidy programs with all ways of moving: just as often as PathBest says by one, and by none less often.
func TestTheLeastOfAllWaysOfMoving(t *testing.T) {
	d := &dice{state: 101}
	programs, ways := 0, 0
	check := func(p impl.Prog, e impl.Expr) {
		if len(p.Steps) > 8 || !tidyByAsking(p) {
			return
		}
		paths := d.pathsOf(p)
		if len(paths) == 0 {
			return
		}
		s := sceneOf(p, e)
		var all []impl.Place
		s.eachAdmissible(func(x impl.Place) { all = append(all, x) })
		for _, path := range paths {
			checkCounts(t, s, path, all)
		}
		programs++
		ways += len(all)
	}
	turn := 0
	smallMovers(func(p impl.Prog, e impl.Expr) {
		turn++
		if len(p.Steps) <= 5 || turn%4 == 0 {
			check(p, e)
		}
	})
	greatMovers(3, 8, 30, check)
	runMovers(3, 8, 10, check)
	atLeast(t, 1000, programs, ways/8)
}

// Promise 61, on runs: as often as it is counted on the program's own path the moved program's run comes to a step that reckons it.
func TestWhatIsCountedIsWhatARunReckons(t *testing.T) {
	d := &dice{state: 102}
	counts := map[int]int{}
	movings(t, 1, impl.ProgMax, 2, func(p impl.Prog, e impl.Expr, w wayOfMoving, keep int, q impl.Prog) {
		for _, in := range d.inputsOf() {
			r := impl.RunOf(p, in, 200)
			if r.Code != impl.RunEnded {
				continue
			}
			run := impl.RunOf(q, in, impl.RunMax)
			got, want := impl.PathCount(p, e, w.Place, r.Path), reckonedOn(q, e, run.Path)
			if run.Code != impl.RunEnded || got != want {
				t.Fatalf("%q, %s: %s, %v: counted %d on %v, reckoned %d by %q", impl.ProgWrite(p), exprSaid(e), placeRows(w.Place), in, got, r.Path, want, impl.ProgWrite(q))
			}
			counts[min(got, 5)]++
		}
	})
	for count := range 6 {
		if counts[count] < 100 {
			t.Errorf("only %d reckon it %d times", counts[count], count)
		}
	}
}

// steeredPaths hands on programs whose runs go as what comes in says, tidy or not, with paths of each and what must come in for these.
func steeredPaths(yield func(s scene, path, in []int)) {
	d := &dice{state: 103}
	along := func(p impl.Prog, e impl.Expr) {
		if len(p.Steps) == 0 {
			return
		}
		s := sceneOf(p, e)
		for _, path := range d.pathsOf(p) {
			yield(s, path, d.inputAlong(p, path))
		}
	}
	for size := 1; size <= 45; size++ {
		for range 2 {
			for _, e := range movables() {
				if p := steered(d.mover(size, e)); len(p.Steps) > 0 {
					bothTidy(p, e, along)
				}
			}
		}
	}
	windingMovers(2, 45, 2, func(p impl.Prog, e impl.Expr) {
		if q := steered(p); len(q.Steps) > 0 {
			along(q, e)
		}
	})
}

// Promise 61, on any path: a run is made to go it.
func TestWhatIsCountedOnAnyPathIsReckoned(t *testing.T) {
	d := &dice{state: 104}
	runs, moved := 0, 0
	steeredPaths(func(s scene, path, in []int) {
		if r := impl.RunOf(s.p, in, impl.RunMax); r.Code != impl.RunEnded || !slices.Equal(r.Path, path) {
			t.Fatalf("%q, %v: a run goes %v, not %v", impl.ProgWrite(s.p), in, r.Path, path)
		}
		for _, w := range d.waysOfMoving(s) {
			q, ok := impl.PlaceDo(s.p, s.e, w.Place, 5)
			if !ok {
				continue
			}
			run := impl.RunOf(q, in, impl.RunMax)
			got, want := impl.PathCount(s.p, s.e, w.Place, path), reckonedOn(q, s.e, run.Path)
			if run.Code != impl.RunEnded || !slices.Equal(ownPath(w.Place, run.Path), path) || got != want {
				t.Fatalf("%q, %s: %s, %v: counted %d, reckoned %d by %q", impl.ProgWrite(s.p), exprSaid(s.e), placeRows(w.Place), path, got, want, impl.ProgWrite(q))
			}
			runs++
			if countOf(w.Puts) > 0 {
				moved++
			}
		}
	})
	atLeast(t, 1000, runs, moved)
}

// Promise 61, as paths alone: what is moved is gone by the same choices, and its steps that reckon are counted there.
func TestWhatIsCountedIsWhatIsMovedReckons(t *testing.T) {
	d := &dice{state: 105}
	short, long := 0, 0
	tidyPaths(func(s scene, paths [][]int) {
		x := d.hereAndThere(s)
		q, ok := impl.PlaceDo(s.p, s.e, x, 5)
		if !ok || countOf(x.Puts) == 0 {
			return
		}
		for _, path := range paths {
			there, again := goneBySame(q, choicesOf(s.p, path))
			got := impl.PathCount(s.p, s.e, x, path)
			if want := reckonedOn(q, s.e, there); got != want || !slices.Equal(ownPath(x, there), path) {
				t.Fatalf("%q, %s: %s, %v: counted %d, reckoned %d on %v of %q", impl.ProgWrite(s.p), exprSaid(s.e), placeRows(x), path, got, want, there, impl.ProgWrite(q))
			}
			if len(there) > 200 {
				long++
				continue
			}
			short++
			if none := impl.PathCount(q, s.e, impl.PlaceNone(q, s.e), again); none != got {
				t.Fatalf("%q, %s: %s, %v: counted %d, and %d on %v of %q", impl.ProgWrite(s.p), exprSaid(s.e), placeRows(x), path, got, none, again, impl.ProgWrite(q))
			}
		}
	})
	atLeast(t, 10, short/100, long)
}

// goneBySame is where one goes by choices, by nodes and by the program.
func goneBySame(q impl.Prog, choices []bool) (there, again []int) {
	there, _ = pathByNodes(q, choices, 1000)
	again, _ = impl.PathOf(q, choices)
	return there, again
}

// Promise 62.
func TestWithoutPutsACountIsLess(t *testing.T) {
	d := &dice{state: 106}
	less, many := 0, 0
	manyPaths(func(s scene, paths [][]int) {
		for _, x := range d.waysToCount(s) {
			without := impl.Place{Puts: make([]bool, len(x.Puts)), Takes: x.Takes}
			for _, path := range paths {
				count, rest, puts := impl.PathCount(s.p, s.e, x, path), impl.PathCount(s.p, s.e, without, path), comesTo(path, x.Puts)
				if rest != count-puts {
					t.Fatalf("%q, %s: %s, %v: %d, and %d without %d puts", impl.ProgWrite(s.p), exprSaid(s.e), placeRows(x), path, count, rest, puts)
				}
				if puts > 0 {
					less++
				}
				if puts > countOf(x.Puts) {
					many++
				}
			}
		}
	})
	atLeast(t, 1000, less, many)
}

// Promise 63. What was moved is tidy still, and as late or as early as can be, moved once more, it is reckoned as often on a run.
func TestToMoveOnceMoreMakesNothingBetter(t *testing.T) {
	runs, reckoned, loops := 0, 0, 0
	steeredPaths(func(s scene, path, in []int) {
		if !tidyByAsking(s.p) {
			return
		}
		for name, x := range placesTold(s.p, s.e) {
			q, ok := impl.PlaceDo(s.p, s.e, x, 5)
			if name == "none" || !ok {
				continue
			}
			run := impl.RunOf(q, in, impl.RunMax)
			if !impl.FlowIsTidy(q) || run.Code != impl.RunEnded {
				t.Fatalf("%q, %s: %s: %q", impl.ProgWrite(s.p), exprSaid(s.e), name, impl.ProgWrite(q))
			}
			runs += checkNoBetter(t, q, s.e, in, run.Path)
			if count := reckonedOn(q, s.e, run.Path); count > 0 {
				reckoned++
				if count > countOf(x.Puts) {
					loops++
				}
			}
		}
	})
	atLeast(t, 500, runs, reckoned, loops)
}

// checkNoBetter: a run of what was moved reckons it as often, if it is moved once more; told is how many ways of moving had room.
func checkNoBetter(t *testing.T, q impl.Prog, e impl.Expr, in, path []int) int {
	t.Helper()
	count := reckonedOn(q, e, path)
	if best := impl.PathBest(q, e, path); len(path) <= 200 && best != count {
		t.Fatalf("%q, %s: reckoned %d times on %v, at least %d", impl.ProgWrite(q), exprSaid(e), count, path, best)
	}
	done := 0
	for name, x := range placesTold(q, e) {
		r, ok := impl.PlaceDo(q, e, x, 6)
		if !ok {
			continue
		}
		done++
		run := impl.RunOf(r, in, impl.RunMax)
		if again := reckonedOn(r, e, run.Path); run.Code != impl.RunEnded || again != count {
			t.Fatalf("%q, %s: reckoned %d times, %s once more %d times: %q", impl.ProgWrite(q), exprSaid(e), count, name, again, impl.ProgWrite(r))
		}
	}
	return done
}

// Promise 64.
func TestALoopIsEnteredAtItsHead(t *testing.T) {
	entered, again, inner := 0, 0, 0
	check := func(p impl.Prog, paths [][]int) {
		for head, is := range impl.LoopHeads(p) {
			if !is {
				continue
			}
			loop := impl.LoopOf(p, head)
			for _, path := range paths {
				times := 0
				for i, at := range path {
					if !loop[at] || i > 0 && loop[path[i-1]] {
						continue
					}
					if at != head {
						t.Fatalf("%q: the loop of %d is entered at %d of %v", impl.ProgWrite(p), head, i, path)
					}
					times++
				}
				entered += min(times, 1)
				again += max(times-1, 0)
			}
			if countOf(loop) < len(p.Steps)/2 {
				inner++
			}
		}
	}
	manyPaths(func(s scene, paths [][]int) { check(s.p, paths) })
	d := &dice{state: 108}
	for size := 2; size <= impl.ProgMax; size++ {
		for range 5 {
			p := d.loopy(size)
			check(p, d.pathsOf(p))
			if q := tidyByNodes(p); len(q.Steps) <= impl.ProgMax {
				check(q, d.pathsOf(q))
			}
		}
	}
	atLeast(t, 1000, entered, again, inner)
}
