package tests

import (
	"math"
	"slices"
	"testing"

	"loop.example/causey/impl"
)

// Promise 10.
func TestAStepMoreToWhichNoWayLeads(t *testing.T) {
	d := &dice{state: 33}
	manyRuns(func(p impl.Prog, in []int) {
		size := len(p.Steps)
		if size == impl.ProgMax {
			return
		}
		q := cloneProg(p)
		q.Steps = append(q.Steps, d.step(1+d.roll(7), size+1))
		for _, most := range []int{0, 1, d.roll(40), impl.RunMax} {
			r, s := impl.RunOf(p, in, most), impl.RunOf(q, in, most)
			if r.Code == impl.RunBad || !sameResult(r, s) {
				t.Fatalf("%q, %v, %d: %v, and with a step more %v", impl.ProgWrite(p), in, most, r, s)
			}
		}
	})
}

// backInto is a path of a tidied program as one of the program that it was made of: without what was added.
func backInto(p impl.Prog, path []int) []int {
	from := map[int]int{}
	reach := reachWithout(p, -1)
	for at, to := range placesInTidy(p) {
		if reach[at] {
			from[to] = at
		}
	}
	var back []int
	for _, to := range path {
		if at, ok := from[to]; ok {
			back = append(back, at)
		}
	}
	return back
}

// Promise 11.
func TestATidyProgramSaysTheSame(t *testing.T) {
	d := &dice{state: 34}
	changed, refused := 0, 0
	manyRuns(func(p impl.Prog, in []int) {
		q, ok := impl.FlowTidy(p)
		if !ok {
			refused++
			return
		}
		if !impl.FlowIsTidy(q) {
			t.Fatalf("%q: not tidy", impl.ProgWrite(q))
		}
		if !sameProg(p, q) {
			changed++
		}
		for _, more := range [][]int{nil, in, d.input()} {
			checkSaysTheSame(t, p, q, more)
		}
	})
	if changed < 1000 || refused < 10 {
		t.Errorf("only %d were changed, and %d refused", changed, refused)
	}
}

// checkSaysTheSame: as far as both runs go they come to the same steps and let out the same, and they end the same.
func checkSaysTheSame(t *testing.T, p, tidy impl.Prog, in []int) {
	t.Helper()
	r, s := impl.RunOf(p, in, impl.RunMax), impl.RunOf(tidy, in, impl.RunMax)
	back := backInto(p, s.Path)
	fine := begins(back, r.Path) && begins(s.Outs, r.Outs)
	if s.Code != impl.RunLong {
		fine = fine && s.Code == r.Code && len(back) == len(r.Path) && len(s.Outs) == len(r.Outs)
	} else {
		// A tidy run does a step of its own between two others, and one ahead, at most.
		fine = fine && len(back) >= impl.RunMax/2-1
	}
	if !fine {
		t.Fatalf("%q, %v: %v, and tidied %v", impl.ProgWrite(p), in, r, s)
	}
}

// Promise 12.
func TestWithMoreStepsARunGoesOn(t *testing.T) {
	d := &dice{state: 35}
	manyRuns(func(p impl.Prog, in []int) {
		full := impl.RunOf(p, in, impl.RunMax)
		most := d.roll(min(len(full.Path)+3, impl.RunMax))
		r, s := impl.RunOf(p, in, most), impl.RunOf(p, in, most+1)
		if !begins(r.Path, s.Path) || !begins(r.Outs, s.Outs) || !begins(s.Path, full.Path) || !begins(s.Outs, full.Outs) {
			t.Fatalf("%q, %v, %d: %v, and with a step more %v", impl.ProgWrite(p), in, most, r, s)
		}
		if r.Code == impl.RunLong && len(s.Path) != len(r.Path)+1 {
			t.Fatalf("%q, %v, %d: %v does not go on: %v", impl.ProgWrite(p), in, most, r, s)
		}
		if r.Code != impl.RunLong && (!sameResult(r, s) || !sameResult(r, full)) {
			t.Fatalf("%q, %v, %d: %v does not stay: %v", impl.ProgWrite(p), in, most, r, s)
		}
	})
}

// Promises 13 and 16.
func TestARunIsAWayThroughTheProgram(t *testing.T) {
	manyRuns(func(p impl.Prog, in []int) {
		for _, most := range []int{1, 5, 30, impl.RunMax} {
			r := impl.RunOf(p, in, most)
			checkWay(t, p, r)
			checkEnd(t, p, in, most, r)
			if countKind(p, r.Path, impl.StepOut) != len(r.Outs) {
				t.Fatalf("%q, %v, %d: other outs than StepOuts: %v", impl.ProgWrite(p), in, most, r)
			}
			for _, n := range r.Outs {
				if n < 0 || n >= impl.ProgNum {
					t.Fatalf("%q, %v, %d: no number is let out: %v", impl.ProgWrite(p), in, most, r)
				}
			}
		}
	})
}

func checkWay(t *testing.T, p impl.Prog, r impl.Result) {
	t.Helper()
	if len(r.Path) == 0 || r.Path[0] != 0 {
		t.Fatalf("%q: begins elsewhere: %v", impl.ProgWrite(p), r)
	}
	for i, at := range r.Path[1:] {
		if !slices.Contains(p.Steps[r.Path[i]].Next, at) {
			t.Fatalf("%q: no way leads to %d: %v", impl.ProgWrite(p), at, r)
		}
	}
}

func checkEnd(t *testing.T, p impl.Prog, in []int, most int, r impl.Result) {
	t.Helper()
	last := p.Steps[r.Path[len(r.Path)-1]].Kind
	asked := countKind(p, r.Path, impl.StepIn)
	fine := false
	switch r.Code {
	case impl.RunEnded:
		fine = last == impl.StepEnd && asked <= len(in)
	case impl.RunLong:
		fine = last != impl.StepEnd && asked <= len(in) && len(r.Path) == most
	case impl.RunDry:
		fine = last == impl.StepIn && asked == len(in)+1
	}
	if !fine || countKind(p, r.Path[:len(r.Path)-1], impl.StepEnd) > 0 || len(r.Path) > most {
		t.Fatalf("%q, %v, %d: does not end where its code says: %v", impl.ProgWrite(p), in, most, r)
	}
}

// checkOp: promise 14 of two numbers.
func checkOp(t *testing.T, a, b int) {
	t.Helper()
	for op := impl.OpAdd; op <= impl.OpLess; op++ {
		if n := impl.RunOp(op, a, b); n < 0 || n >= impl.ProgNum || n != opByBig(op, a, b) {
			t.Fatalf("op %d of %d and %d: %d", op, a, b, n)
		}
	}
	sum, less := impl.RunOp(impl.OpAdd, a, b), impl.RunOp(impl.OpSub, a, b)
	if impl.RunOp(impl.OpSub, sum, b) != a || impl.RunOp(impl.OpAdd, less, b) != a {
		t.Fatalf("%d is not there again, behind %d", a, b)
	}
	if impl.RunOp(impl.OpAdd, b, a) != sum || impl.RunOp(impl.OpMul, b, a) != impl.RunOp(impl.OpMul, a, b) {
		t.Fatalf("%d and %d are not turned about", a, b)
	}
	same := 0
	if a == b {
		same = 1
	}
	if impl.RunOp(impl.OpLess, a, b)+impl.RunOp(impl.OpLess, b, a)+same != 1 {
		t.Fatalf("%d and %d: which is less?", a, b)
	}
}

// Promise 14.
func TestWhatIsReckoned(t *testing.T) {
	edges := []int{0, 1, 2, 3, 181, 255, 256, 257, 32767, 32768, 32769, 65280, 65533, 65534, 65535}
	for _, a := range edges {
		for b := range impl.ProgNum {
			if b%17 == 0 || slices.Contains(edges, b) {
				checkOp(t, a, b)
				checkOp(t, b, a)
			}
		}
	}
	d := &dice{state: 36}
	for range 20000 {
		a := d.roll(impl.ProgNum)
		checkOp(t, a, d.roll(impl.ProgNum))
		checkOp(t, a, a)
	}
}

func TestReckoningsAtTheEdges(t *testing.T) {
	for _, c := range []struct{ op, a, b, want int }{
		{impl.OpAdd, 65535, 0, 65535}, {impl.OpAdd, 65535, 1, 0}, {impl.OpAdd, 32768, 32768, 0}, {impl.OpAdd, 65535, 65535, 65534},
		{impl.OpSub, 0, 0, 0}, {impl.OpSub, 0, 1, 65535}, {impl.OpSub, 0, 65535, 1}, {impl.OpSub, 65535, 65535, 0}, {impl.OpSub, 65535, 0, 65535},
		{impl.OpMul, 256, 256, 0}, {impl.OpMul, 255, 257, 65535}, {impl.OpMul, 65535, 65535, 1}, {impl.OpMul, 65535, 2, 65534}, {impl.OpMul, 65535, 0, 0},
		{impl.OpLess, 0, 65535, 1}, {impl.OpLess, 65535, 0, 0}, {impl.OpLess, 0, 0, 0}, {impl.OpLess, 65535, 65535, 0}, {impl.OpLess, 65534, 65535, 1}, {impl.OpLess, 32767, 32768, 1},
	} {
		if n := impl.RunOp(c.op, c.a, c.b); n != c.want {
			t.Errorf("op %d of %d and %d: %d, not %d", c.op, c.a, c.b, n, c.want)
		}
	}
}

func TestReckoningsThatAreNone(t *testing.T) {
	wrong := []int{math.MinInt, -1 << 32, -65536, -65535, -2, -1, 65536, 65537, 131072, 1 << 32, 1<<32 + 1, math.MaxInt}
	for _, n := range wrong {
		for op := -1; op <= 6; op++ {
			for _, fine := range []int{0, 1, 7, 65535} {
				if impl.RunOp(op, n, fine) != 0 || impl.RunOp(op, fine, n) != 0 {
					t.Errorf("op %d of %d and %d is reckoned", op, n, fine)
				}
			}
			for _, m := range wrong {
				if impl.RunOp(op, n, m) != 0 {
					t.Errorf("op %d of %d and %d is reckoned", op, n, m)
				}
			}
		}
	}
	for _, op := range []int{math.MinInt, -257, -4, -1, 0, 5, 6, 7, 257, 1<<32 + 1, math.MaxInt} {
		for _, a := range []int{0, 1, 65535} {
			for _, b := range []int{0, 1, 2, 65535} {
				if impl.RunOp(op, a, b) != 0 {
					t.Errorf("op %d is reckoned", op)
				}
			}
		}
	}
}

// Promise 15.
func TestInputThatIsNotAskedFor(t *testing.T) {
	d := &dice{state: 37}
	unasked := 0
	manyRuns(func(p impl.Prog, in []int) {
		for _, most := range []int{0, 1, 1 + d.roll(30), impl.RunMax} {
			r := impl.RunOf(p, in, most)
			if r.Code == impl.RunDry {
				continue
			}
			asked := countKind(p, r.Path, impl.StepIn)
			if asked > len(in) {
				t.Fatalf("%q, %v, %d: more is taken than comes in: %v", impl.ProgWrite(p), in, most, r)
			}
			if asked < len(in) {
				unasked++
			}
			for _, other := range [][]int{in[:asked], append(slices.Clone(in), 0), append(slices.Clone(in[:asked]), d.input()...), append(slices.Clone(in), 65535, 1)} {
				if s := impl.RunOf(p, other, most); r.Code == impl.RunBad || !sameResult(r, s) {
					t.Fatalf("%q, %d: %v with %v, and %v with %v", impl.ProgWrite(p), most, r, in, s, other)
				}
			}
		}
	})
	if unasked < 1000 {
		t.Errorf("only %d runs left input", unasked)
	}
}

// Behind where input lacked a run goes on, if there is more: it lacked nothing else.
func TestInputThatWasLacking(t *testing.T) {
	dry := 0
	manyRuns(func(p impl.Prog, in []int) {
		r := impl.RunOf(p, in, impl.RunMax-1)
		if r.Code != impl.RunDry {
			return
		}
		dry++
		s := impl.RunOf(p, append(slices.Clone(in), 0), len(r.Path)+1)
		if len(s.Path) != len(r.Path)+1 || !begins(r.Path, s.Path) || !begins(r.Outs, s.Outs) {
			t.Fatalf("%q, %v: %v, and with a number more %v", impl.ProgWrite(p), in, r, s)
		}
	})
	if dry < 1000 {
		t.Errorf("only %d lacked input", dry)
	}
}

func usesVar(p impl.Prog, v int) bool {
	for _, s := range p.Steps {
		h, _ := shapeOf(s.Kind)
		if h.dst && s.Dst == v || h.a && s.A == variable(v) || h.b && s.B == variable(v) {
			return true
		}
	}
	return false
}

// idle is the variables with which no step has to do.
func idle(p impl.Prog) []int {
	var list []int
	for v := range impl.ProgVars {
		if !usesVar(p, v) {
			list = append(list, v)
		}
	}
	return list
}

// setAhead is a program with a step ahead of all that makes a variable a number.
func setAhead(p impl.Prog, v, n int) impl.Prog {
	q := cloneProg(p)
	for i := range q.Steps {
		for k := range q.Steps[i].Next {
			q.Steps[i].Next[k]++
		}
	}
	q.Steps = append([]impl.Step{{Kind: impl.StepCopy, Dst: v, A: num(n), Next: []int{1}}}, q.Steps...)
	return q
}

// stepAhead is what comes of a run that does a step more ahead of all, which lets nothing out.
func stepAhead(r impl.Result) impl.Result {
	more := impl.Result{Code: r.Code, Outs: r.Outs, Path: []int{0}}
	for _, at := range r.Path {
		more.Path = append(more.Path, at+1)
	}
	return more
}

// renamed is a program with one variable instead of another one.
func renamed(p impl.Prog, from, to int) impl.Prog {
	q := cloneProg(p)
	for i := range q.Steps {
		s := &q.Steps[i]
		h, _ := shapeOf(s.Kind)
		if h.dst && s.Dst == from {
			s.Dst = to
		}
		if h.a && s.A == variable(from) {
			s.A = variable(to)
		}
		if h.b && s.B == variable(from) {
			s.B = variable(to)
		}
	}
	return q
}

// Promise 17: whatever such a variable is, and if it stands in for another one, a run is the same.
func TestAVariableWithWhichNoStepHasToDo(t *testing.T) {
	d := &dice{state: 38}
	tried := 0
	manyRuns(func(p impl.Prog, in []int) {
		free := idle(p)
		if len(free) == 0 || len(p.Steps) == impl.ProgMax {
			return
		}
		tried++
		v := free[d.roll(len(free))]
		most := []int{0, 1, d.roll(60), impl.RunMax - 1}[d.roll(4)]
		r := impl.RunOf(p, in, most)
		s := impl.RunOf(setAhead(p, v, 1+d.roll(65535)), in, most+1)
		if r.Code == impl.RunBad || !sameResult(s, stepAhead(r)) {
			t.Fatalf("%q, %v, %d: %v, and with v%d set %v", impl.ProgWrite(p), in, most, r, v, s)
		}
		for from := range impl.ProgVars {
			if s := impl.RunOf(renamed(p, from, v), in, most); !sameResult(r, s) {
				t.Fatalf("%q, %v, %d: %v, and with v%d for v%d %v", impl.ProgWrite(p), in, most, r, v, from, s)
			}
		}
	})
	if tried < 1000 {
		t.Errorf("only %d were tried", tried)
	}
}

// Promise 18.
func TestARunOfNoStepsDoesNothing(t *testing.T) {
	manyRuns(func(p impl.Prog, in []int) {
		if r := impl.RunOf(p, in, 0); !sameResult(r, impl.Result{Code: impl.RunLong}) {
			t.Fatalf("%q, %v: %v", impl.ProgWrite(p), in, r)
		}
	})
}
