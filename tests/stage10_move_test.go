package tests

import (
	"slices"
	"strconv"
	"strings"
	"testing"

	"loop.example/causey/impl"
)

// twelve is a program that has to do with all variables, and reckons twice what a text says; `left` is which of the last variables it has nothing to do with.
func twelve(left int, lines ...string) string {
	var text strings.Builder
	named := impl.ProgVars - left
	for v := range named {
		text.WriteString("out v" + strconv.Itoa(v) + " " + strconv.Itoa(v+1) + "\n")
	}
	for i, line := range lines {
		text.WriteString(line + " " + strconv.Itoa(named+i+1) + "\n")
	}
	return text.String() + "end\n"
}

func checkMoved(t *testing.T, text, want string) {
	t.Helper()
	p := told(t, text)
	q, ok := impl.PassMove(p)
	if got := impl.ProgWrite(q); !ok || got != want {
		t.Errorf("%q: %v %q, not %q", text, ok, got, want)
	}
}

func TestAllMovedByHand(t *testing.T) {
	for _, c := range []struct{ text, want string }{
		// Nothing is reckoned.
		{"end\n", "end\n"},
		{"out v0 1\nv1 = v0 2\nend\n", "out v0 1\nv1 = v0 2\nend\n"},
		// It is made tidy all the same.
		{"skip 0\n", "skip 1\nskip 1\n"},
		{"test v0 1 1\nend\nout 1 1\n", "test v0 2 3\nend\nskip 1\nskip 1\n"},
		// What is reckoned once is put nowhere.
		{"v2 = v0 + v1 1\nend\n", "v2 = v0 + v1 1\nend\n"},
		{"v0 = v0 + 1 1\nv0 = v0 + 1 2\nend\n", "v0 = v0 + 1 1\nv0 = v0 + 1 2\nend\n"},
		// What is reckoned twice is reckoned once.
		{"v2 = v0 + v1 1\nv3 = v0 + v1 2\nend\n", "v4 = v0 + v1 3\nv3 = v4 2\nend\nv2 = v4 1\n"},
		{"v0 = 3 + 4 1\nv0 = 3 + 4 2\nend\n", "v1 = 3 + 4 3\nv0 = v1 2\nend\nv0 = v1 1\n"},
		// The least variable that is left, also between others.
		{"v1 = v3 * v3 1\nv2 = v3 * v3 2\nend\n", "v0 = v3 * v3 3\nv2 = v0 2\nend\nv1 = v0 1\n"},
		{"v0 = v3 * v3 1\nv2 = v3 * v3 2\nend\n", "v1 = v3 * v3 3\nv2 = v1 2\nend\nv0 = v1 1\n"},
		// Several reckonings, in the order of the first step that reckons each; the second is moved in what comes of the first.
		{"v2 = v0 + v1 1\nv3 = v0 - v1 2\nv4 = v0 - v1 3\nv5 = v0 + v1 4\nend\n", "v6 = v0 + v1 5\nv7 = v0 - v1 6\nv4 = v7 3\nv5 = v6 4\nend\nv2 = v6 1\nv3 = v7 2\n"},
		// Turned about it is another one.
		{"v2 = v0 + v1 1\nv3 = v1 + v0 2\nend\n", "v2 = v0 + v1 1\nv3 = v1 + v0 2\nend\n"},
		// The second is of what the first makes: its operand is a copy of what is kept then.
		{"v2 = v0 + v1 1\nv3 = v2 * v2 2\nv4 = v0 + v1 3\nv5 = v2 * v2 4\nend\n", "v6 = v0 + v1 5\nv7 = v2 * v2 6\nv4 = v6 3\nv5 = v7 4\nend\nv2 = v6 1\nv3 = v7 2\n"},
		// Where both are put at one step the one that is put last stands there first.
		{"test v0 1 2\nv2 = v0 + v1 3\nskip 3\nv3 = v0 < v1 4\nv4 = v0 + v1 5\nv5 = v0 < v1 6\nend\n", "test v0 1 2\nv6 = v0 + v1 8\nv6 = v0 + v1 9\nv7 = v0 < v1 10\nv4 = v6 5\nv5 = v7 6\nend\nskip 3\nv2 = v6 7\nskip 3\nv3 = v7 4\n"},
		// Out of a loop: only what was reckoned ahead of it anyway, or whichever way one goes.
		{"v3 = v0 + v1 1\nv2 = v0 + v1 2\ntest v2 1 3\nend\n", "v4 = v0 + v1 6\nv2 = v4 2\ntest v2 5 3\nend\nskip 1\nskip 1\nv3 = v4 4\n"},
		{"skip 1\nv2 = v0 + v1 2\ntest v3 1 3\nend\n", "v4 = v0 + v1 5\nv2 = v4 2\ntest v3 4 3\nend\nskip 1\nskip 1\n"},
		{"test v3 1 2\nv2 = v0 + v1 0\nend\n", "skip 3\nv2 = v0 + v1 4\nend\ntest v3 1 2\nskip 3\n"},
		// Steps that cannot be come to are gone first: what they reckon is not moved, and their variables are left.
		{"v2 = v0 + v1 2\nv3 = v4 < 9 2\nend\nv5 = v4 < 9 0\n", "v2 = v0 + v1 1\nend\n"},
		{"v2 = v0 + v1 1\nv3 = v0 + v1 3\nv4 = in 3\nend\n", "v4 = v0 + v1 3\nv3 = v4 2\nend\nv2 = v4 1\n"},
	} {
		checkMoved(t, c.text, c.want)
	}
}

// What is said of where no variable is left, or only one.
func TestMovedWhereNoVariableIsFree(t *testing.T) {
	two := []string{"v0 = v1 + v2", "v3 = v1 + v2", "v0 = v1 * v2", "v3 = v1 * v2"}
	none := twelve(0, two...)
	checkMoved(t, none, none)
	// One is left, which the first takes that is moved.
	one := told(t, twelve(1, two...))
	q, ok := impl.PassMove(one)
	if !ok || len(q.Steps) != len(one.Steps)+1 || !reckonedTimes(q, "v1 + v2", 1) || !reckonedTimes(q, "v1 * v2", 2) {
		t.Errorf("%v %q", ok, impl.ProgWrite(q))
	}
	// The first is put nowhere, so that the second takes it.
	one = told(t, twelve(1, "v1 = v1 + v2", "v3 = v1 + v2", "v0 = v1 * v2", "v3 = v1 * v2"))
	q, ok = impl.PassMove(one)
	if !ok || len(q.Steps) != len(one.Steps)+1 || !reckonedTimes(q, "v1 + v2", 2) || !reckonedTimes(q, "v1 * v2", 1) {
		t.Errorf("%v %q", ok, impl.ProgWrite(q))
	}
	// Two are left.
	both := told(t, twelve(2, two...))
	q, ok = impl.PassMove(both)
	if !ok || len(q.Steps) != len(both.Steps)+2 || !reckonedTimes(q, "v1 + v2", 1) || !reckonedTimes(q, "v1 * v2", 1) {
		t.Errorf("%v %q", ok, impl.ProgWrite(q))
	}
	// Where none is left it is made tidy all the same.
	q, ok = impl.PassMove(told(t, strings.Replace(none, "end\n", "test v0 12 17\nend\n", 1)))
	if !ok || !sameProg(q, tidyByNodes(told(t, strings.Replace(none, "end\n", "test v0 12 17\nend\n", 1)))) {
		t.Errorf("%v %q", ok, impl.ProgWrite(q))
	}
}

// reckonedTimes says whether so many steps of a program reckon what words say.
func reckonedTimes(p impl.Prog, said string, times int) bool {
	reckons, _ := sayers(p)
	return len(slices.DeleteFunc(reckons, func(other string) bool { return other != said })) == times
}

// keptIn is the variable to which the only step that reckons 3 + 4 makes it; -1, if there are several.
func keptIn(p impl.Prog) int {
	if !reckonedTimes(p, "3 + 4", 1) {
		return -1
	}
	reckons, _ := sayers(p)
	return p.Steps[slices.Index(reckons, "3 + 4")].Dst
}

// A variable that one step names, in one way alone, is not taken; one that only a step names that cannot be come to is.
func TestTheLeastVariableThatIsFree(t *testing.T) {
	for v := range impl.ProgVars {
		other := (v + 5) % impl.ProgVars
		twice := impl.Step{Kind: impl.StepSet, Dst: other, Op: impl.OpAdd, A: num(3), B: num(4)}
		p := impl.Prog{Steps: []impl.Step{{Kind: impl.StepEnd}}}
		p = withAhead(withAhead(p, twice), twice)
		for w := range v {
			p = withAhead(p, impl.Step{Kind: impl.StepOut, A: variable(w)})
		}
		if q, ok := impl.PassMove(p); !ok || keptIn(q) != v {
			t.Errorf("v%d: %v %q", v, ok, impl.ProgWrite(q))
		}
		next := v + 1
		if next == other {
			next++
		}
		if next >= impl.ProgVars {
			next = -1
		}
		for name, s := range usersOf(v, other) {
			q, ok := impl.PassMove(withAhead(p, s))
			if !ok || keptIn(q) != next {
				t.Errorf("v%d, %s: %v %q", v, name, ok, impl.ProgWrite(q))
			}
			// The same step at the end, where one does not come.
			s.Next = slices.Repeat([]int{0}, map[bool]int{true: 2, false: 1}[s.Kind == impl.StepTest])
			lost := impl.Prog{Steps: append(cloneProg(p).Steps, s)}
			if q, ok := impl.PassMove(lost); !ok || keptIn(q) != v {
				t.Errorf("v%d, %s, not come to: %v %q", v, name, ok, impl.ProgWrite(q))
			}
		}
	}
}

// twiceTwo reckons v0 + v1 so that it is put at two places, and then v0 < v1 so that it is put at one, behind so many steps.
func twiceTwo(t *testing.T, ahead int) impl.Prog {
	t.Helper()
	p := told(t, "test v2 1 2\nv3 = v0 + v1 7\nskip 3\nv4 = v0 + v1 4\nv5 = v0 < v1 5\nv6 = v0 < v1 6\nend\nskip 3\n")
	for range ahead {
		p = withAhead(p, impl.Step{Kind: impl.StepOut, A: variable(0)})
	}
	return p
}

// A reckoning for whose places there is no room stays, and the next one is moved, if there is room for its own.
func TestMovedAtTheBoundOfSteps(t *testing.T) {
	for _, c := range []struct {
		ahead, first, second int // how many steps reckon each then
	}{
		{0, 2, 1}, {20, 2, 1}, {48, 2, 1}, {49, 2, 1}, {50, 2, 2}, {51, 2, 1}, {52, 2, 2},
	} {
		p := twiceTwo(t, c.ahead)
		q, ok := impl.PassMove(p)
		want := movedByWords(p)
		if !ok || !sameProg(q, want.prog) || !reckonedTimes(q, "v0 + v1", c.first) || !reckonedTimes(q, "v0 < v1", c.second) {
			t.Errorf("%d: %v %q", c.ahead, ok, impl.ProgWrite(q))
		}
		puts := len(q.Steps) - len(p.Steps)
		if want := map[int]int{50: 2, 51: 1, 52: 0}; c.ahead < 50 && puts != 3 || c.ahead >= 50 && puts != want[c.ahead] {
			t.Errorf("%d: %d steps more", c.ahead, puts)
		}
	}
}

// Where there is no room to make it tidy nothing comes of it.
func TestNotMovedWhereItIsNotTidied(t *testing.T) {
	end := impl.Step{Kind: impl.StepEnd}
	for choices := range 25 {
		for _, p := range []impl.Prog{chain(choices, 3, end), chain(choices, 57-choices, end), withAhead(chain(choices, 3, end), impl.Step{Kind: impl.StepSet, Op: impl.OpAdd})} {
			tidy := tidyByNodes(p)
			q, ok := impl.PassMove(p)
			if fits := len(tidy.Steps) <= impl.ProgMax; ok != fits || fits && !sameProg(q, tidy) || !fits && len(q.Steps) != 0 {
				t.Fatalf("%q: %v %q", impl.ProgWrite(p), ok, impl.ProgWrite(q))
			}
		}
	}
}

// checkMovedByWords counts what became of each reckoning.
func checkMovedByWords(t *testing.T, p impl.Prog, counts map[string]int) {
	t.Helper()
	want := movedByWords(p)
	q, ok := impl.PassMove(p)
	if ok != want.ok || !sameProg(q, want.prog) || ok && !okByTable(q) {
		t.Fatalf("%q: %v %q, not %v %q: %v", impl.ProgWrite(p), ok, impl.ProgWrite(q), want.ok, impl.ProgWrite(want.prog), want.fates)
	}
	moved := 0
	for _, fate := range want.fates {
		counts[fate]++
		if fate == "moved" {
			moved++
		}
	}
	switch {
	case !ok:
		counts["not tidied"]++
	case len(want.fates) == 0:
		counts["none"]++
	case moved > 1:
		counts["several"]++
	}
	// One that is not moved, and one that is, behind it.
	for _, fate := range []string{"no room", "no variable", "nowhere"} {
		if at := slices.Index(want.fates, fate); at >= 0 && slices.Contains(want.fates[at:], "moved") {
			counts["moved behind "+fate]++
		}
	}
}

func TestAllMovedAgainstWords(t *testing.T) {
	counts := map[string]int{}
	check := func(p impl.Prog) { checkMovedByWords(t, p, counts) }
	manySeverals(1, impl.ProgMax, 12, check)
	// With little room.
	d := &dice{state: 153}
	for size := 40; size <= impl.ProgMax; size++ {
		for range 20 {
			check(d.filledUp(d.several(size/2 + d.roll(12))))
		}
		check(d.alike(size / 2))
		check(d.prog(size))
		check(d.wasteful(size))
	}
	for _, c := range []string{"moved", "nowhere", "no variable", "no room", "not tidied", "none", "several", "moved behind nowhere", "moved behind no room"} {
		if counts[c] < 20 {
			t.Errorf("%s: only %d", c, counts[c])
		}
	}
	if counts["not admissible"] > 0 || counts["moved behind no variable"] > 0 {
		t.Error(counts)
	}
}

// All programs of up to three steps of few kinds.
func TestAllMovedInSmallPrograms(t *testing.T) {
	counts := map[string]int{}
	for size := 1; size <= 3; size++ {
		eachOf(movedSteps(size), make([]impl.Step, size), 0, func(p impl.Prog) { checkMovedByWords(t, p, counts) })
	}
	eachOf(fewSteps(2), make([]impl.Step, 2), 0, func(p impl.Prog) { checkMovedByWords(t, p, counts) })
	atLeast(t, 100, counts["moved"], counts["nowhere"], counts["none"])
}

// By the program's own functions, one behind the other, as the sentence names them.
func TestAllMovedAsItsFunctionsSay(t *testing.T) {
	tried := 0
	manySeverals(2, impl.ProgMax, 6, func(p impl.Prog) {
		want, fine := impl.FlowTidy(p)
		for _, e := range impl.ExprList(want) {
			x := impl.PlaceLazy(want, e)
			if !slices.Contains(x.Puts, true) {
				continue
			}
			for keep := range impl.ProgVars {
				if !usesVar(want, keep) {
					if q, ok := impl.PlaceDo(want, e, x, keep); ok {
						want = q
						tried++
					}
					break
				}
			}
		}
		if q, ok := impl.PassMove(p); ok != fine || !sameProg(q, want) {
			t.Fatalf("%q: %v %q, not %v %q", impl.ProgWrite(p), ok, impl.ProgWrite(q), fine, impl.ProgWrite(want))
		}
	})
	atLeast(t, 500, tried)
}

func TestNothingMovedOfAProgramThatIsNotOk(t *testing.T) {
	for _, p := range wrongReckoners() {
		if q, ok := impl.PassMove(p); ok || len(q.Steps) != 0 {
			t.Fatalf("%v: %v %v", p, ok, q)
		}
		if q, ok := impl.PassDo(p, "move"); ok || len(q.Steps) != 0 {
			t.Fatalf("%v: %v %v", p, ok, q)
		}
	}
}
