package tests

import (
	"math"
	"slices"
	"strings"
	"testing"

	"loop.example/causey/impl"
)

// doCase is a program, a reckoning, a way of moving, a variable, and by hand what comes of it.
type doCase struct {
	text string
	said string
	way  string
	keep int
	want string
}

func TestMovedByHand(t *testing.T) {
	for _, c := range []doCase{
		// Nothing is moved.
		{"v2 = v0 + v1 1\nend\n", "v0 + v1", "00 00", 5, "v2 = v0 + v1 1\nend\n"},
		{"end\n", "v0 + v1", "0 0", 2, "end\n"},
		// A place and a take at one step: the step itself takes, and stands at the end.
		{"v2 = v0 + v1 1\nend\n", "v0 + v1", "10 10", 5, "v5 = v0 + v1 2\nend\nv2 = v5 1\n"},
		// A place alone, at a step that reckons it, at another one, at an end.
		{"v2 = v0 + v1 1\nend\n", "v0 + v1", "10 00", 11, "v11 = v0 + v1 2\nend\nv2 = v0 + v1 1\n"},
		{"skip 1\nv2 = v0 + v1 2\nend\n", "v0 + v1", "100 010", 3, "v3 = v0 + v1 3\nv2 = v3 2\nend\nskip 1\n"},
		{"v2 = v0 + v1 1\nend\n", "v0 + v1", "01 00", 5, "v2 = v0 + v1 1\nv5 = v0 + v1 2\nend\n"},
		// Takes at several, also of different variables.
		{"v2 = v1 * 7 1\nv3 = v1 * 7 2\nv0 = v1 * 7 3\nend\n", "v1 * 7", "1000 1110", 4, "v4 = v1 * 7 4\nv3 = v4 2\nv0 = v4 3\nend\nv2 = v4 1\n"},
		{"v2 = v1 * 7 1\nv3 = v1 * 7 2\nv0 = v1 * 7 3\nend\n", "v1 * 7", "1000 0010", 4, "v4 = v1 * 7 4\nv3 = v1 * 7 2\nv0 = v4 3\nend\nv2 = v1 * 7 1\n"},
		// Several places: the steps stand at the end in order.
		{"test v2 1 2\nv3 = v0 - v1 3\nskip 3\nv4 = v0 - v1 4\nend\n", "v0 - v1", "01100 01010", 6, "test v2 1 2\nv6 = v0 - v1 5\nv6 = v0 - v1 6\nv4 = v6 4\nend\nv3 = v6 3\nskip 3\n"},
		{"v2 = v0 < v1 1\nskip 2\nv3 = v0 < v1 3\nend\n", "v0 < v1", "1111 1010", 5, "v5 = v0 < v1 4\nv5 = v0 < v1 5\nv5 = v0 < v1 6\nv5 = v0 < v1 7\nv2 = v5 1\nskip 2\nv3 = v5 3\nend\n"},
		// At a choice: both its ways go on.
		{"test v2 1 2\nv3 = v0 + v1 2\nv4 = v0 + v1 3\nend\n", "v0 + v1", "1000 0110", 5, "v5 = v0 + v1 4\nv3 = v5 2\nv4 = v5 3\nend\ntest v2 1 2\n"},
		{"test v2 1 1\nv4 = v0 + v1 2\nend\n", "v0 + v1", "100 010", 5, "v5 = v0 + v1 3\nv4 = v5 2\nend\ntest v2 1 1\n"},
		{"test v2 1 1\nv4 = v0 + v1 2\nend\n", "v0 + v1", "010 010", 5, "test v2 1 1\nv5 = v0 + v1 3\nend\nv4 = v5 2\n"},
		// At the first step, with a way back to it: each time round it is reckoned anew.
		{"v2 = v0 + v1 1\ntest v2 0 2\nend\n", "v0 + v1", "100 100", 5, "v5 = v0 + v1 3\ntest v2 0 2\nend\nv2 = v5 1\n"},
		// At a step whose way leads to itself.
		{"v2 = v0 + v1 0\n", "v0 + v1", "1 1", 5, "v5 = v0 + v1 1\nv2 = v5 0\n"},
		{"skip 0\n", "v0 + v1", "1 0", 5, "v5 = v0 + v1 1\nskip 0\n"},
		{"skip 1\nv2 = v0 + v1 1\n", "v0 + v1", "10 01", 5, "v5 = v0 + v1 2\nv2 = v5 1\nskip 1\n"},
		// A step that changes its own operand.
		{"v0 = v0 + v1 1\nend\n", "v0 + v1", "10 10", 5, "v5 = v0 + v1 2\nend\nv0 = v5 1\n"},
		// Steps that cannot be come to stay, and reckon.
		{"skip 2\nv0 = in 2\nv2 = v0 + v1 3\nend\nv3 = v0 + v1 2\n", "v0 + v1", "10000 00100", 5, "v5 = v0 + v1 5\nv0 = in 2\nv2 = v5 3\nend\nv3 = v0 + v1 2\nskip 2\n"},
		// Numbers alone, and the variable 0.
		{"v2 = 3 + 4 1\nend\n", "3 + 4", "10 10", 0, "v0 = 3 + 4 2\nend\nv2 = v0 1\n"},
		// No step reckons it.
		{"test v2 1 2\nend\nskip 2\n", "v0 + 9", "001 000", 5, "test v2 1 2\nend\nv5 = v0 + 9 3\nskip 2\n"},
	} {
		p, e := told(t, c.text), exprTold(t, c.said)
		q, ok := impl.PlaceDo(p, e, placeTold(t, c.way, len(p.Steps)), c.keep)
		if got := impl.ProgWrite(q); !ok || got != c.want {
			t.Errorf("%q, %s: %s: %v %q", c.text, c.said, c.way, ok, got)
		}
	}
}

func checkNotMoved(t *testing.T, p impl.Prog, e impl.Expr, x impl.Place, keep int) {
	t.Helper()
	if q, ok := impl.PlaceDo(p, e, x, keep); ok || len(q.Steps) != 0 {
		t.Fatalf("%v, %v: %s, %d: %v %v", p, e, placeRows(x), keep, ok, q)
	}
}

// checkOrder: each StepSet stands where it was put, and the step that it stands instead of at the end, in order, behind it; all other steps stay.
func checkOrder(t *testing.T, p impl.Prog, e impl.Expr, x impl.Place, keep int, q impl.Prog) {
	t.Helper()
	last := len(p.Steps)
	for at, s := range p.Steps {
		want := s
		if x.Takes[at] {
			want = impl.Step{Kind: impl.StepCopy, Dst: s.Dst, A: variable(keep), Next: s.Next}
		}
		place := at
		if x.Puts[at] {
			set := impl.Step{Kind: impl.StepSet, Dst: keep, Op: e.Op, A: e.A, B: e.B, Next: []int{last}}
			if !sameStep(q.Steps[at], set) {
				t.Fatalf("%q, %s: %s, %d: %q: step %d", impl.ProgWrite(p), exprSaid(e), placeRows(x), keep, impl.ProgWrite(q), at)
			}
			place, last = last, last+1
		}
		if !sameStep(q.Steps[place], want) {
			t.Fatalf("%q, %s: %s, %d: %q: step %d is not at %d", impl.ProgWrite(p), exprSaid(e), placeRows(x), keep, impl.ProgWrite(q), at, place)
		}
	}
	if len(q.Steps) != last {
		t.Fatalf("%q, %s: %s, %d: %q: %d steps", impl.ProgWrite(p), exprSaid(e), placeRows(x), keep, impl.ProgWrite(q), len(q.Steps))
	}
}

// What comes of it, of each way that is admissible, and each variable that is free, and nothing else.
func TestMovedAgainstNodes(t *testing.T) {
	d := &dice{state: 77}
	done, great, bad := 0, 0, 0
	check := func(p impl.Prog, e impl.Expr) {
		s := sceneOf(p, e)
		x, vars := d.anyPlace(s), free(p, e)
		keep := d.roll(impl.ProgVars+2) - 1
		if len(vars) > 0 && d.roll(4) > 0 {
			keep = vars[d.roll(len(vars))]
		}
		size := len(p.Steps) + countOf(x.Puts)
		if !slices.Contains(vars, keep) || !s.admits(x) || size > impl.ProgMax {
			checkNotMoved(t, p, e, x, keep)
			bad++
			if size > impl.ProgMax && s.admits(x) {
				great++
			}
			return
		}
		q, ok := impl.PlaceDo(p, e, x, keep)
		if want := movedByNodes(p, e, x, keep); !ok || !sameProg(q, want) || !okByTable(q) {
			t.Fatalf("%q, %s: %s, %d: %v %q, not %q", impl.ProgWrite(p), exprSaid(e), placeRows(x), keep, ok, impl.ProgWrite(q), impl.ProgWrite(want))
		}
		checkOrder(t, p, e, x, keep, q)
		done++
	}
	smallMovers(check)
	greatMovers(1, impl.ProgMax, 3, check)
	runMovers(1, impl.ProgMax, 4, check)
	if done < 1000 || great < 100 || bad < 1000 {
		t.Errorf("only %d moved, %d too great, %d not", done, great, bad)
	}
}

// usersOf are steps with a name that have to do with one variable, each in one way alone; those that must change one have the other for it.
func usersOf(v, other int) map[string]impl.Step {
	return map[string]impl.Step{
		"set":          {Kind: impl.StepSet, Dst: v, Op: impl.OpSub, A: num(1), B: num(2)},
		"first of set": {Kind: impl.StepSet, Dst: other, Op: impl.OpSub, A: variable(v), B: num(2)},
		"last of set":  {Kind: impl.StepSet, Dst: other, Op: impl.OpSub, A: num(1), B: variable(v)},
		"copied to":    {Kind: impl.StepCopy, Dst: v, A: num(v)},
		"copied":       {Kind: impl.StepCopy, Dst: other, A: variable(v)},
		"comes in":     {Kind: impl.StepIn, Dst: v},
		"let out":      {Kind: impl.StepOut, A: variable(v)},
		"tested":       {Kind: impl.StepTest, A: variable(v)},
	}
}

// A variable will do just if nothing has to do with it, whether it can be come to or not.
func TestWhichVariableMayBeKept(t *testing.T) {
	sum := impl.Expr{Op: impl.OpAdd, A: num(3), B: num(4)}
	for v := range impl.ProgVars {
		other := (v + 5) % impl.ProgVars
		for name, s := range usersOf(v, other) {
			for kind, p := range map[string]impl.Prog{
				"reached":     {Steps: []impl.Step{s, {Kind: impl.StepEnd}}},
				"not reached": {Steps: []impl.Step{{Kind: impl.StepSkip, Next: []int{1}}, {Kind: impl.StepEnd}, s}},
			} {
				at := len(p.Steps) - 2
				if kind == "not reached" {
					at = 2
				}
				p.Steps[at].Next = slices.Repeat([]int{1}, map[bool]int{true: 2, false: 1}[s.Kind == impl.StepTest])
				if !okByTable(p) {
					t.Fatalf("%s: %v", name, p)
				}
				used := []int{v}
				if h, _ := shapeOf(s.Kind); h.dst && s.Dst == other {
					used = append(used, other)
				}
				checkKeeps(t, p, sum, used)
			}
		}
		// The reckoning alone has to do with it.
		p := told(t, "out 5 1\nskip 2\nend\n")
		checkKeeps(t, p, impl.Expr{Op: impl.OpMul, A: variable(v), B: num(v)}, []int{v})
		checkKeeps(t, p, impl.Expr{Op: impl.OpMul, A: num(v), B: variable(v)}, []int{v})
		checkKeeps(t, p, impl.Expr{Op: impl.OpMul, A: variable(v), B: variable(other)}, []int{v, other})
		checkKeeps(t, p, impl.Expr{Op: impl.OpMul, A: variable(v), B: variable(v)}, []int{v})
	}
	checkKeeps(t, told(t, "out 5 1\nskip 2\ntest 1 2 3\nend\n"), sum, nil)
}

// checkKeeps: moving nothing is done with each variable but those that are used, and with nothing that is no variable.
func checkKeeps(t *testing.T, p impl.Prog, e impl.Expr, used []int) {
	t.Helper()
	x := sceneOf(p, e).none()
	for keep := range impl.ProgVars {
		if slices.Contains(used, keep) {
			checkNotMoved(t, p, e, x, keep)
			continue
		}
		if q, ok := impl.PlaceDo(p, e, x, keep); !ok || !sameProg(q, p) {
			t.Fatalf("%q, %s: v%d: %v %v", impl.ProgWrite(p), exprSaid(e), keep, ok, q)
		}
	}
	for _, keep := range []int{-1, -2, -12, -64, impl.ProgVars, impl.ProgVars + 1, 63, 64, 256, 1<<32 + 9, math.MaxInt, math.MinInt} {
		checkNotMoved(t, p, e, x, keep)
	}
}

// Of a way that puts and takes the variable is looked at, too.
func TestWhichVariableMayBeKeptOfEachWay(t *testing.T) {
	d := &dice{state: 78}
	runMovers(2, 30, 2, func(p impl.Prog, e impl.Expr) {
		s, vars := sceneOf(p, e), free(p, e)
		for _, w := range d.waysOfMoving(s) {
			for keep := -1; keep <= impl.ProgVars; keep++ {
				if _, ok := impl.PlaceDo(p, e, w.Place, keep); ok != (slices.Contains(vars, keep) && len(p.Steps)+countOf(w.Puts) <= impl.ProgMax) {
					t.Fatalf("%q, %s: %s, v%d: %v", impl.ProgWrite(p), exprSaid(e), placeRows(w.Place), keep, ok)
				}
			}
		}
	})
}

func TestMovedAtTheBound(t *testing.T) {
	e := movables()[0]
	for _, c := range []struct {
		letters string // of a chain, which has an end more
		puts    int    // at as many of its first steps
		ok      bool
	}{
		{strings.Repeat("r", 58), 0, true},
		{strings.Repeat("r", 58), 1, true},
		{strings.Repeat("r", 58), 2, false},
		{strings.Repeat("r", 59), 0, true},
		{strings.Repeat("r", 59), 1, false},
		{strings.Repeat("r", 59), 60, false},
		{strings.Repeat("r", 29), 29, true},
		{strings.Repeat("r", 29), 30, true},
		{strings.Repeat("r", 30), 29, true},
		{strings.Repeat("r", 30), 30, false},
		{strings.Repeat("r", 30), 31, false},
		{strings.Repeat("o", 30), 29, true},
		{strings.Repeat("o", 30), 30, false},
		{strings.Repeat("s", 58) + "r", 1, false},
		{strings.Repeat("s", 57) + "r", 1, true},
	} {
		p := chained(c.letters)
		s := sceneOf(p, e)
		x := s.none()
		for at := range c.puts {
			x.Puts[at] = true
		}
		held := s.held(x.Puts)
		x.Takes = s.each(func(at int) bool { return s.reckons[at] && held[at] })
		if !s.admits(x) || !impl.PlaceOk(p, e, x) {
			t.Fatalf("%s, %d: not admissible", c.letters, c.puts)
		}
		if !c.ok {
			checkNotMoved(t, p, e, x, 5)
			continue
		}
		q, ok := impl.PlaceDo(p, e, x, 5)
		if !ok || len(q.Steps) != len(p.Steps)+c.puts || !sameProg(q, movedByNodes(p, e, x, 5)) {
			t.Fatalf("%s, %d: %v %q", c.letters, c.puts, ok, impl.ProgWrite(q))
		}
	}
}

// checkFormless: nothing is told of a way that has not the form.
func checkFormless(t *testing.T, p impl.Prog, e impl.Expr, x impl.Place) {
	t.Helper()
	if impl.PlaceOk(p, e, x) || len(impl.PlaceLive(p, e, x)) != 0 {
		t.Fatalf("%v, %v: %s: %v", p, e, placeRows(x), impl.PlaceLive(p, e, x))
	}
	for _, keep := range []int{-1, 0, 5, 9, 11, impl.ProgVars} {
		checkNotMoved(t, p, e, x, keep)
	}
}

func TestWaysOfMovingWithoutTheForm(t *testing.T) {
	d := &dice{state: 79}
	progs := []impl.Prog{told(t, "end\n"), told(t, "skip 0\n"), told(t, "v2 = v0 + v1 1\nend\n"), told(t, reckonsText), longest(), chained(strings.Repeat("r", 59))}
	for size := 1; size < impl.ProgMax; size += 7 {
		progs = append(progs, d.runMover(size, movables()[0]))
	}
	for _, p := range progs {
		for _, e := range movables() {
			for _, x := range formless(len(p.Steps)) {
				checkFormless(t, p, e, x)
			}
		}
	}
}

// checkNoMoving: of what is not ok nothing is told by any of the six.
func checkNoMoving(t *testing.T, p impl.Prog, e impl.Expr) {
	t.Helper()
	for i, x := range []impl.Place{impl.PlaceNone(p, e), impl.PlaceBusy(p, e), impl.PlaceLazy(p, e)} {
		if len(x.Puts) != 0 || len(x.Takes) != 0 {
			t.Fatalf("%v, %v: %d: %s", p, e, i, placeRows(x))
		}
		checkFormless(t, p, e, x)
	}
	size := len(p.Steps)
	yes := slices.Repeat([]bool{true}, size)
	for _, x := range []impl.Place{{Puts: make([]bool, size), Takes: make([]bool, size)}, {Puts: yes, Takes: make([]bool, size)}, {Puts: make([]bool, size), Takes: yes}, {Puts: yes, Takes: slices.Clone(yes)}} {
		checkFormless(t, p, e, x)
	}
}

func TestNoMovingOfAReckoningThatIsNotOk(t *testing.T) {
	d := &dice{state: 80}
	for _, p := range []impl.Prog{told(t, "end\n"), told(t, "skip 0\n"), told(t, reckonsText), d.runMover(12, movables()[0]), d.runMover(40, movables()[4])} {
		for _, e := range wrongExprs() {
			checkNoMoving(t, p, e)
		}
	}
}

func TestNoMovingInAProgramThatIsNotOk(t *testing.T) {
	for _, p := range wrongReckoners() {
		for _, e := range append(movables(), impl.Expr{}) {
			checkNoMoving(t, p, e)
		}
	}
}
