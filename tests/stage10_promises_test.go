package tests

import (
	"slices"
	"strings"
	"testing"

	"loop.example/causey/impl"
)

// saidRuns is how far a program's own runs go: what became of it may have more steps to do, and has room for them up to RunMax.
const saidRuns = 250

// checkSays holds what a program says against what became of it; true, if both ran to where they end.
func checkSays(t *testing.T, what string, p, q impl.Prog, in []int) bool {
	t.Helper()
	r, s := impl.RunOf(p, in, saidRuns), impl.RunOf(q, in, impl.RunMax)
	says := saysTheSame(r, s)
	if says == saysElse {
		t.Fatalf("%s %q, %v: %v, and of %q %v", what, impl.ProgWrite(p), in, r, impl.ProgWrite(q), s)
	}
	return says == saysAll
}

// Promise 77.
func TestAPassChangesNothingOfWhatIsSaid(t *testing.T) {
	whole, other := map[string]int{}, map[string]int{}
	check := func(p impl.Prog, in []int) {
		for _, name := range sixNames {
			q, ok := impl.PassDo(p, name)
			if !okByTable(q) || !ok && !sameProg(p, q) {
				t.Fatalf("%s %q: %v", name, impl.ProgWrite(p), q)
			}
			if checkSays(t, name, p, q, in) && len(impl.RunOf(p, in, saidRuns).Outs) > 0 {
				whole[name]++
				if !sameProg(p, q) {
					other[name]++
				}
			}
		}
	}
	severalRuns(3, check)
	d := &dice{state: 171}
	greatWastes(1, impl.ProgMax, 4, func(p impl.Prog) {
		check(p, d.input())
		check(p, []int{3, 65535, 0, 1, 2, 7, 0, 9})
	})
	for _, name := range sixNames {
		if whole[name] < 500 || other[name] < 30 {
			t.Errorf("%s: %d runs to where they end, of %d what became is otherwise", name, whole[name], other[name])
		}
	}
}

// Promise 78.
func TestPassesAreDoneAlsoCutAnywhere(t *testing.T) {
	d := &dice{state: 172}
	done, broken, moves := 0, 0, 0
	check := func(p impl.Prog) {
		names := d.somePasses(8)
		if d.roll(2) == 0 {
			names = append(names, "move", sixNames[d.roll(6)])
		}
		q, ok := impl.PassAll(p, names)
		for at := range len(names) + 1 {
			part, fine := impl.PassAll(p, names[:at])
			if fine {
				part, fine = impl.PassAll(part, names[at:])
			}
			if fine != ok || !sameProg(part, q) {
				t.Fatalf("%q, %q: %v %q, and cut at %d %v %q", impl.ProgWrite(p), names, ok, impl.ProgWrite(q), at, fine, impl.ProgWrite(part))
			}
		}
		one, fine := p, true
		for _, name := range names {
			if fine {
				one, fine = impl.PassDo(one, name)
			}
		}
		if fine != ok || !sameProg(one, q) {
			t.Fatalf("%q, %q: %v %q, and one by one %v %q", impl.ProgWrite(p), names, ok, impl.ProgWrite(q), fine, impl.ProgWrite(one))
		}
		switch {
		case !ok:
			broken++
		case slices.Contains(names, "move"):
			moves++
		default:
			done++
		}
	}
	manySeverals(1, impl.ProgMax, 3, check)
	greatWastes(1, impl.ProgMax, 3, check)
	atLeast(t, 100, done, broken, moves)
}

// Promise 79.
func TestPassesChangeNothingOfWhatIsSaid(t *testing.T) {
	d := &dice{state: 173}
	done, broken := 0, 0
	severalRuns(4, func(p impl.Prog, in []int) {
		names := d.somePasses(6)
		if d.roll(4) == 0 {
			names = append(names, noNames[d.roll(len(noNames))], "skip")
		}
		q, ok := impl.PassAll(p, names)
		if !okByTable(q) {
			t.Fatalf("%q, %q: %v", impl.ProgWrite(p), names, q)
		}
		whole := checkSays(t, strings.Join(names, " "), p, q, in)
		switch {
		case !whole || sameProg(p, q):
		case ok:
			done++
		default:
			broken++
		}
	})
	atLeast(t, 500, done, broken)
}

// setsOn is how many steps of a run reckon.
func setsOn(p impl.Prog, r impl.Result) int {
	return countKind(p, r.Path, impl.StepSet)
}

// movedRuns hands on programs with what they are when all is moved, and inputs.
func movedRuns(t *testing.T, times int, yield func(p, q impl.Prog, in []int)) {
	t.Helper()
	refused := 0
	severalRuns(times, func(p impl.Prog, in []int) {
		q, ok := impl.PassMove(p)
		if !ok {
			refused++
			return
		}
		yield(p, q, in)
	})
	atLeast(t, 10, refused)
}

// steeredSeverals hands on programs whose runs go as what comes in says, and come to an end, with inputs for several paths of each.
func steeredSeverals(yield func(p impl.Prog, in []int)) {
	d := &dice{state: 174}
	for size := 2; size <= 40; size++ {
		for range 12 {
			p := d.several(size)
			p.Steps[size-1] = impl.Step{Kind: impl.StepEnd}
			if p = steered(p); len(p.Steps) == 0 {
				continue
			}
			for _, path := range d.pathsOf(p) {
				yield(p, d.inputAlong(p, path))
			}
		}
	}
}

// Promises 80 and 81.
func TestWhatIsAllMovedSaysTheSameAndReckonsNoMore(t *testing.T) {
	ended, fewer, outs := 0, 0, 0
	check := func(p, q impl.Prog, in []int) {
		whole := checkSays(t, "move", p, q, in)
		r, s := impl.RunOf(p, in, saidRuns), impl.RunOf(q, in, impl.RunMax)
		if r.Code != impl.RunEnded {
			return
		}
		// Where the other run is broken off it has reckoned part of what it does.
		if setsOn(q, s) > setsOn(p, r) {
			t.Fatalf("%q, %v: %d steps reckon, and of %q %d", impl.ProgWrite(p), in, setsOn(p, r), impl.ProgWrite(q), setsOn(q, s))
		}
		if whole {
			ended++
		}
		if setsOn(q, s) < setsOn(p, r) && whole {
			fewer++
		}
		if whole && len(r.Outs) > 0 && setsOn(p, r) > 0 {
			outs++
		}
	}
	movedRuns(t, 15, check)
	atLeast(t, 300, ended, fewer, outs)
	ended, fewer, outs = 0, 0, 0
	steeredSeverals(func(p impl.Prog, in []int) {
		if q, ok := impl.PassMove(p); ok {
			check(p, q, in)
		}
	})
	atLeast(t, 300, ended, fewer, outs)
}

// Promises 84 and 85.
func TestWhatIsAllMovedIsTidyAndOnceMoreReckonsNoMore(t *testing.T) {
	ended, reckoning := 0, 0
	check := func(p, q impl.Prog, in []int) {
		if !impl.FlowIsTidy(q) || !tidyByAsking(q) {
			t.Fatalf("%q: %q is not tidy", impl.ProgWrite(p), impl.ProgWrite(q))
		}
		again, ok := impl.PassMove(q)
		if !ok || !tidyByAsking(again) {
			t.Fatalf("%q: %q, and once more %v %q", impl.ProgWrite(p), impl.ProgWrite(q), ok, impl.ProgWrite(again))
		}
		checkSays(t, "move once more", q, again, in)
		r, s := impl.RunOf(q, in, impl.RunMax), impl.RunOf(again, in, impl.RunMax)
		if r.Code != impl.RunEnded {
			return
		}
		if setsOn(again, s) > setsOn(q, r) {
			t.Fatalf("%q, %v: %d steps of %q reckon, and once more %d of %q", impl.ProgWrite(p), in, setsOn(q, r), impl.ProgWrite(q), setsOn(again, s), impl.ProgWrite(again))
		}
		ended++
		if setsOn(q, r) > 0 {
			reckoning++
		}
	}
	movedRuns(t, 6, check)
	steeredSeverals(func(p impl.Prog, in []int) {
		if q, ok := impl.PassMove(p); ok {
			check(p, q, in)
		}
	})
	atLeast(t, 1000, ended, reckoning)
}

// Promise 82.
func TestATextSaysWhatComesOfIt(t *testing.T) {
	d := &dice{state: 175}
	done, broken, apart := 0, 0, 0
	check := func(p impl.Prog) {
		names := d.somePasses(4)
		text := strings.Join(names, " ") + "\n" + impl.ProgWrite(p)
		got := impl.PassText(text)
		q, ok := impl.PassAll(p, names)
		// One empty name is written as no name is.
		if slices.Equal(names, []string{""}) {
			q, ok = impl.PassAll(p, nil)
		}
		// A name that has a blank or a newline is written as others are.
		if slices.ContainsFunc(names, func(name string) bool { return strings.ContainsAny(name, " \n") }) {
			if got != textByWords(text) {
				t.Fatalf("%q: %q", text, got)
			}
			apart++
			return
		}
		switch {
		case ok && got != impl.ProgWrite(q), !ok && got != "no\n":
			t.Fatalf("%q: %q, and PassAll %v %q", text, got, ok, impl.ProgWrite(q))
		case ok:
			done++
			back, fine := impl.ProgRead(got)
			if !fine || !sameProg(back, q) {
				t.Fatalf("%q: %q is not read back", text, got)
			}
		default:
			broken++
		}
		// Without its last byte, or its first line, it says no program.
		if got := impl.PassText(text[:len(text)-1]); got != "bad\n" {
			t.Fatalf("%q: %q", text[:len(text)-1], got)
		}
	}
	manySeverals(1, impl.ProgMax, 3, check)
	greatWastes(1, impl.ProgMax, 3, check)
	atLeast(t, 10, done/10, broken/10, apart)
}

// Promise 83.
func TestNoPassesChangeNothing(t *testing.T) {
	check := func(p impl.Prog) {
		for _, names := range [][]string{nil, {}, sixNames[:0]} {
			if q, ok := impl.PassAll(p, names); !ok || !sameProg(p, q) {
				t.Fatalf("%q: %v %q", impl.ProgWrite(p), ok, impl.ProgWrite(q))
			}
		}
		text := impl.ProgWrite(p)
		if got := impl.PassText("\n" + text); got != text {
			t.Fatalf("%q: %q", text, got)
		}
	}
	manySeverals(1, impl.ProgMax, 3, check)
	smallRunners(2, check)
	d := &dice{state: 176}
	for size := 1; size <= impl.ProgMax; size++ {
		check(d.prog(size))
		check(d.wasteful(size))
	}
	check(longest())
}
