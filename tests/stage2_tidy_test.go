package tests

import (
	"testing"

	"loop.example/causey/impl"
)

// plain is a step without its ways.
func plain(s impl.Step) impl.Step {
	s.Next = nil
	return s
}

func isSkip(s impl.Step) bool {
	return s.Kind == impl.StepSkip
}

// The order of the steps, by hand: the others in order, the first one at the end where a way leads to it, then skips by steps, then by Next.
func TestTheOrderOfATidyProgram(t *testing.T) {
	for _, c := range []struct{ text, want string }{
		{"end\n", "end\n"},
		{"skip 0\n", "skip 1\nskip 1\n"},
		{"out 1 0\n", "skip 1\nout 1 2\nskip 1\n"},
		{"test v0 0 0\n", "skip 1\ntest v0 2 3\nskip 1\nskip 1\n"},
		{"test v0 1 0\nend\n", "skip 2\nend\ntest v0 1 3\nskip 2\n"},
		{"test v0 1 1\nend\n", "test v0 2 3\nend\nskip 1\nskip 1\n"},
		{"test v0 1 1\nskip 2\nend\n", "test v0 3 4\nskip 2\nend\nskip 1\nskip 1\n"},
		{"end\nskip 0\n", "end\n"},
		{"out v0 2\nout v1 2\nend\n", "out v0 1\nend\n"},
		{"out v0 1\nout v1 1\n", "out v0 2\nout v1 3\nskip 1\nskip 1\n"},
		{"skip 1\nout v0 1\n", "skip 1\nout v0 2\nskip 1\n"},
		{"out v0 1\nskip 1\n", "out v0 2\nskip 1\nskip 1\n"},
		{"out v0 1\nskip 0\n", "skip 2\nskip 2\nout v0 1\n"},
		{"skip 1\nout v0 0\n", "skip 2\nout v0 3\nskip 1\nskip 2\n"},
		{"test v0 1 2\nskip 3\nout 5 3\nend\n", "test v0 1 2\nskip 3\nout 5 4\nend\nskip 3\n"},
		{"test v0 1 2\nout v1 2\ntest v1 0 3\nend\n", "skip 4\nout v1 5\ntest v1 6 3\nend\ntest v0 1 7\nskip 2\nskip 4\nskip 2\n"},
		{"test v0 2 4\nend\nout v1 5\nv3 = in 0\ntest v2 5 0\ntest v4 0 6\nskip 5\n", "skip 5\nout v1 6\ntest v2 7 8\ntest v4 9 4\nskip 3\ntest v0 1 2\nskip 3\nskip 3\nskip 5\nskip 5\n"},
		{ordinaryText, "v0 = in 7\ntest v0 2 3\nv1 = v0 + 1 8\nv1 = 2 9\nout v1 5\ntest v1 10 6\nend\nskip 1\nskip 4\nskip 4\nskip 1\n"},
	} {
		q, ok := impl.FlowTidy(told(t, c.text))
		if !ok || !sameProg(q, told(t, c.want)) {
			t.Errorf("%q: %v %q, not %q", c.text, ok, impl.ProgWrite(q), c.want)
		}
	}
}

func TestTidyOrNot(t *testing.T) {
	for _, c := range []struct {
		text string
		tidy bool
	}{
		{"end\n", true},
		{"skip 0\n", false},
		{"test v0 0 0\n", false},
		{"test v0 1 1\nend\n", false},
		{"test v0 1 2\nend\nend\n", true},
		{"skip 1\nskip 1\n", true},
		{"skip 1\nout 1 1\n", false},
		{"skip 1\nout 1 2\nskip 1\n", true},
		{"out 1 1\nskip 1\n", false},
		{"end\nend\n", false},
		{"end\nskip 1\n", false},
		{"skip 2\nskip 2\nend\n", false},
		{"test v0 1 2\nskip 3\nskip 3\nend\n", true},
		{"test v0 1 2\nout 1 3\nskip 3\nend\n", false},
		{"test v0 1 2\nskip 3\nout 1 3\nend\n", false},
		{"test v0 1 2\nskip 3\nskip 3\nskip 0\n", false},
	} {
		if impl.FlowIsTidy(told(t, c.text)) != c.tidy {
			t.Errorf("%q: not %v", c.text, c.tidy)
		}
	}
}

// Promise 8.
func TestTidiedTwiceIsTidiedOnce(t *testing.T) {
	tidy, refused := 0, 0
	manyFlows(func(p impl.Prog) {
		if impl.FlowIsTidy(p) != tidyByAsking(p) {
			t.Fatalf("%v: tidy or not", p)
		}
		q, ok := impl.FlowTidy(p)
		want := tidyByNodes(p)
		if len(want.Steps) > impl.ProgMax {
			refused++
			if ok || len(q.Steps) != 0 {
				t.Fatalf("%v: %v", p, q)
			}
			return
		}
		if !ok || !sameProg(q, want) || !impl.ProgOk(q) || !impl.FlowIsTidy(q) || !tidyByAsking(q) {
			t.Fatalf("%v: %v", p, q)
		}
		if tidyByAsking(p) {
			tidy++
			if !sameProg(q, p) {
				t.Fatalf("%v did not stay: %v", p, q)
			}
		}
		if again, ok := impl.FlowTidy(q); !ok || !sameProg(again, q) {
			t.Fatalf("%v: twice: %v", p, again)
		}
	})
	if tidy < 20 || refused < 20 {
		t.Errorf("only %d were tidy, and %d refused", tidy, refused)
	}
}

// Promise 9.
func TestTidyingAddsSkipsAlone(t *testing.T) {
	manyFlows(func(p impl.Prog) {
		q, ok := impl.FlowTidy(p)
		if !ok {
			return
		}
		added := make([]bool, len(q.Steps))
		for i := range added {
			added[i] = true
		}
		to := placesInTidy(p)
		for i, can := range reachWithout(p, -1) {
			if !can {
				continue
			}
			if !sameStep(plain(p.Steps[i]), plain(q.Steps[to[i]])) {
				t.Fatalf("%v: step %d is not at %d: %v", p, i, to[i], q)
			}
			added[to[i]] = false
		}
		for i, more := range added {
			if more && !isSkip(q.Steps[i]) {
				t.Fatalf("%v: step %d was added: %v", p, i, q)
			}
		}
		checkWaysStay(t, p, q, to, added)
	})
}

// placesInTidy is where the steps that can be come to stand in the tidied program.
func placesInTidy(p impl.Prog) []int {
	to := make([]int, len(p.Steps))
	count := 0
	for i, can := range reachWithout(p, -1) {
		to[i] = count
		if can {
			count++
		}
	}
	if len(predsByAsking(p)[0]) > 0 {
		to[0] = count
	}
	return to
}

// checkWaysStay: each way leads, past steps that were added, where it led.
func checkWaysStay(t *testing.T, p, q impl.Prog, to []int, added []bool) {
	t.Helper()
	past := func(at int) int {
		for range q.Steps {
			if added[at] {
				at = q.Steps[at].Next[0]
			}
		}
		return at
	}
	for i, can := range reachWithout(p, -1) {
		for k, next := range p.Steps[i].Next {
			if can && past(q.Steps[to[i]].Next[k]) != to[next] {
				t.Fatalf("%v: a way of step %d is lost: %v", p, i, q)
			}
		}
	}
	if past(0) != to[0] {
		t.Fatalf("%v: begins elsewhere: %v", p, q)
	}
}

// chain is steps one behind the other: first some choices whose both ways are one, then outs, then the last step.
func chain(choices, outs int, last impl.Step) impl.Prog {
	var p impl.Prog
	for range choices {
		at := len(p.Steps) + 1
		p.Steps = append(p.Steps, impl.Step{Kind: impl.StepTest, A: variable(1), Next: []int{at, at}})
	}
	for range outs {
		p.Steps = append(p.Steps, impl.Step{Kind: impl.StepOut, A: variable(2), Next: []int{len(p.Steps) + 1}})
	}
	return impl.Prog{Steps: append(p.Steps, last)}
}

// more has as many steps behind the end, to which no way leads, as there is room for.
func more(p impl.Prog) impl.Prog {
	q := cloneProg(p)
	for len(q.Steps) < impl.ProgMax {
		q.Steps = append(q.Steps, impl.Step{Kind: impl.StepTest, Next: []int{0, len(p.Steps)}})
	}
	return q
}

func TestTidyingAtTheBound(t *testing.T) {
	end := impl.Step{Kind: impl.StepEnd}
	skipBack := impl.Step{Kind: impl.StepSkip, Next: []int{0}}
	outBack := impl.Step{Kind: impl.StepOut, Next: []int{0}}
	bothBack := impl.Step{Kind: impl.StepTest, Next: []int{0, 0}}
	for i, c := range []struct {
		p    impl.Prog
		size int
	}{
		{chain(0, 59, end), 60},
		{chain(19, 2, end), 60},
		{chain(20, 0, end), 61},
		{chain(19, 3, end), 61},
		{chain(1, 56, end), 60},
		{chain(1, 57, end), 61},
		{chain(0, 58, skipBack), 60},
		{chain(0, 59, skipBack), 61},
		{chain(0, 57, outBack), 60},
		{chain(0, 58, outBack), 61},
		{chain(0, 56, bothBack), 60},
		{chain(0, 57, bothBack), 61},
		{chain(18, 2, outBack), 59},
		{chain(18, 3, outBack), 60},
		{chain(18, 4, outBack), 61},
	} {
		want := tidyByNodes(c.p)
		if len(want.Steps) != c.size {
			t.Fatalf("%d: %d steps", i, len(want.Steps))
		}
		for _, p := range []impl.Prog{c.p, more(c.p)} {
			q, ok := impl.FlowTidy(p)
			if c.size <= impl.ProgMax && (!ok || !sameProg(q, want)) {
				t.Errorf("%d: %v %v", i, ok, q)
			}
			if c.size > impl.ProgMax && (ok || len(q.Steps) != 0) {
				t.Errorf("%d: not refused: %v", i, q)
			}
		}
	}
}
