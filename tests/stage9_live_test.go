package tests

import (
	"slices"
	"strings"
	"testing"

	"loop.example/causey/impl"
)

// neededCase is a program, and by hand what may be needed ahead of each step: a yes or no for each of the first four variables; no others are.
type neededCase struct {
	text string
	rows string
}

func checkNeeded(t *testing.T, c neededCase) {
	t.Helper()
	p := told(t, c.text)
	var words []string
	for _, list := range impl.LiveOf(p) {
		if len(list) != 12 || slices.Contains(list[4:], true) {
			t.Fatalf("%q: %s", c.text, row(list))
		}
		words = append(words, row(list[:4]))
	}
	if got := strings.Join(words, " "); got != c.rows {
		t.Errorf("%q: %s, not %s", c.text, got, c.rows)
	}
	// What is by hand holds for the tests' own means, too.
	if own := neededByWays(p); !sameLists(own, impl.LiveOf(p)) {
		t.Errorf("%q: by ways %s", c.text, rows(own))
	}
}

func TestWhatIsNeededByHand(t *testing.T) {
	for _, c := range []neededCase{
		{"v0 = in 1\nv1 = v0 2\nv2 = v1 + 1 3\nout v2 4\nend\n", "0000 1000 0100 0010 0000"},
		// On one way and not on the other.
		{"v0 = in 1\ntest v0 2 3\nout v1 3\nend\n", "0100 1100 0100 0000"},
		{"test v0 1 2\nv1 = 5 3\nskip 3\nout v1 4\nend\n", "1100 0000 0100 0100 0000"},
		{"test v0 1 2\nout v1 3\nout v2 3\nv1 = v3 4\nend\n", "1111 0101 0011 0001 0000"},
		// Both operands, and each of them.
		{"v3 = v0 < v1 1\nend\n", "1100 0000"},
		{"v3 = v0 * v0 1\nend\n", "1000 0000"},
		{"v3 = 7 - v1 1\nend\n", "0100 0000"},
		{"v3 = v1 - 7 1\nend\n", "0100 0000"},
		// Who changes it ends it, by each kind of step.
		{"v1 = v0 + 1 1\nout v1 2\nend\n", "1000 0100 0000"},
		{"v1 = v0 1\nout v1 2\nend\n", "1000 0100 0000"},
		{"v1 = 3 1\nout v1 2\nend\n", "0000 0100 0000"},
		{"v1 = in 1\nout v1 2\nend\n", "0000 0100 0000"},
		// Round a loop.
		{"v1 = v1 - 1 1\ntest v1 0 2\nout v0 3\nend\n", "1100 1100 1000 0000"},
		{"v1 = in 1\nv2 = v2 + v1 2\ntest v1 0 3\nout v2 4\nend\n", "0010 0110 0110 0010 0000"},
		// Rows of skips.
		{"skip 1\nskip 2\nskip 3\nout v3 4\nend\n", "0001 0001 0001 0001 0000"},
	} {
		checkNeeded(t, c)
	}
}

func TestWhatIsNeededAtTheEdges(t *testing.T) {
	for _, c := range []neededCase{
		{"end\n", "0000"},
		// Steps that have no operand do not use the variable 0, and such as have no Dst do not change it.
		{"v3 = in 1\nskip 2\nend\n", "0000 0000 0000"},
		{"out v1 1\ntest v1 2 2\nskip 3\nout v0 4\nend\n", "1100 1100 1000 1000 0000"},
		// Numbers are no variables, whatever their digits.
		{"out 1 1\nv0 = 1 + 2 2\ntest 0 3 3\nv3 = 1 4\nend\n", "0000 0000 0000 0000 0000"},
		// A step that changes what it uses.
		{"v0 = v0 + v1 1\nend\n", "1100 0000"},
		{"v0 = v1 + v0 1\nend\n", "1100 0000"},
		{"v0 = v0 1\nend\n", "1000 0000"},
		// A step whose way leads to itself.
		{"v0 = v0 + 1 0\n", "1000"},
		{"v0 = v1 0\n", "0100"},
		{"v0 = in 0\n", "0000"},
		{"out v2 0\n", "0010"},
		{"skip 0\n", "0000"},
		{"test v0 0 0\n", "1000"},
		// Ways that lead round and never end, on which nobody uses it: as few as there can be.
		{"skip 1\nskip 0\n", "0000 0000"},
		{"v0 = 1 1\nskip 1\n", "0000 0000"},
		{"out v0 1\nskip 1\n", "1000 0000"},
		{"skip 1\ntest 1 2 0\nskip 1\n", "0000 0000 0000"},
		// Somebody does.
		{"skip 1\nout v0 0\n", "1000 1000"},
		{"v0 = in 1\nout v0 0\n", "0000 1000"},
		{"skip 1\ntest 1 2 0\nv2 = v3 1\n", "0001 0001 0001"},
		// A choice whose both ways are one.
		{"test v0 1 1\nout v1 2\nend\n", "1100 0100 0000"},
		{"test v0 1 1\nv0 = 1 2\nend\n", "1000 0000 0000"},
		// Steps that cannot be come to are told of as others, also where they lead to what can be come to.
		{"end\nout v0 1\n", "0000 1000"},
		{"end\nout v0 2\nskip 1\n", "0000 1000 1000"},
		{"end\nv0 = v1 0\n", "0000 0100"},
		{"out v1 2\nout v0 0\nend\n", "0100 1100 0000"},
		{"skip 1\nend\nout v2 1\n", "0000 0000 0010"},
		{"end\nskip 2\nskip 1\n", "0000 0000 0000"},
	} {
		checkNeeded(t, c)
	}
}

// Each variable by itself, the last ones, too.
func TestEachVariableThatIsNeeded(t *testing.T) {
	for v := range impl.ProgVars {
		want := make([]bool, impl.ProgVars)
		want[v] = true
		for name, s := range usersOf(v, (v+5)%impl.ProgVars) {
			s.Next = slices.Repeat([]int{1}, map[bool]int{true: 2, false: 1}[s.Kind == impl.StepTest])
			live := impl.LiveOf(impl.Prog{Steps: []impl.Step{s, {Kind: impl.StepEnd}}})
			needed := name != "set" && name != "copied to" && name != "comes in"
			if len(live) != 2 || slices.Contains(live[1], true) || slices.Equal(live[0], want) != needed || slices.Contains(live[0], true) != needed {
				t.Errorf("v%d, %s: %s", v, name, rows(live))
			}
		}
	}
}

func TestWhatIsNeededAgainstWays(t *testing.T) {
	tried := 0
	check := func(p impl.Prog) {
		tried++
		if got, want := impl.LiveOf(p), neededByWays(p); !sameLists(got, want) {
			t.Fatalf("%q: %s, not %s", impl.ProgWrite(p), rows(got), rows(want))
		}
	}
	manyWastes(check)
	d := &dice{state: 123}
	for size := 1; size <= impl.ProgMax; size++ {
		check(d.prog(size))
		check(d.flow(size))
		check(d.alike(size))
	}
	atLeast(t, 10000, tried)
}

// Of all sets of steps that are just what the sentence makes of them it is the least, also where others are, too.
func TestWhatIsNeededAgainstAllSets(t *testing.T) {
	greater := 0
	check := func(p impl.Prog) {
		if len(p.Steps) > 7 {
			return
		}
		live := impl.LiveOf(p)
		for v := range 4 {
			want := fewestBySets(len(p.Steps), func(at int, so []bool) bool { return saidNeeded(p, v, at, so) })
			for at := range want {
				if live[at][v] != want[at] {
					t.Fatalf("%q: v%d: %s, not %s", impl.ProgWrite(p), v, rows(live), row(want))
				}
			}
			if !slices.Equal(want, mostNeeded(p, v)) {
				greater++
			}
		}
	}
	smallWastes(check)
	greatWastes(4, 7, 60, check)
	atLeast(t, 1000, greater)
}

// leftCase is a program, and by hand what a pass makes of it; empty, if it stays.
type leftCase struct {
	text string
	want string
}

func checkLeft(t *testing.T, name string, cases []leftCase) {
	t.Helper()
	for _, c := range cases {
		if c.want == "" {
			c.want = c.text
		}
		if got := impl.ProgWrite(livePasses()[name](told(t, c.text))); got != c.want {
			t.Errorf("%s %q: %q, not %q", name, c.text, got, c.want)
		}
	}
}

func TestWhatNobodyNeedsByHand(t *testing.T) {
	checkLeft(t, "dead", []leftCase{
		{"v0 = in 1\nv1 = v0 2\nend\n", "v0 = in 1\nskip 2\nend\n"},
		{"v1 = 2 + 3 1\nv1 = 4 2\nout v1 3\nend\n", "skip 1\nv1 = 4 2\nout v1 3\nend\n"},
		{"v1 = 2 1\nv1 = in 2\nout v1 3\nend\n", "skip 1\nv1 = in 2\nout v1 3\nend\n"},
		// What only such use as go themselves is left out when it is done once more.
		{"v0 = 1 1\nv1 = v0 2\nend\n", "v0 = 1 1\nskip 2\nend\n"},
		{"v0 = 1 1\nskip 2\nend\n", "skip 1\nskip 2\nend\n"},
		// Needed on one of two ways.
		{"v1 = 5 1\ntest v0 2 3\nout v1 3\nend\n", ""},
		{"v1 = 5 1\ntest v0 2 3\nv1 = 6 4\nv1 = 7 4\nout v1 5\nend\n", "skip 1\ntest v0 2 3\nv1 = 6 4\nv1 = 7 4\nout v1 5\nend\n"},
		// A StepIn stays, whoever needs it, as all other steps do.
		{"v0 = in 1\nend\n", ""},
		{"v0 = in 0\n", ""},
		{"out v0 1\ntest v1 2 2\nskip 3\nend\n", ""},
		// It changes what it uses.
		{"v1 = v1 + 1 0\n", ""},
		{"v1 = v1 0\n", ""},
		{"v1 = v0 0\n", "skip 0\n"},
		{"v1 = v1 1\nend\n", "skip 1\nend\n"},
		{"v1 = v1 + v1 1\nout v1 2\nend\n", ""},
		{"v1 = v1 + 1 1\nv1 = v1 + 1 2\nend\n", "v1 = v1 + 1 1\nskip 2\nend\n"},
		// Round, and nobody uses it but by what is reckoned of it itself.
		{"v0 = v0 + 1 1\nskip 0\n", ""},
		{"v0 = v1 1\nv1 = v0 0\n", ""},
		{"v0 = 3 1\nv1 = 4 0\n", "skip 1\nskip 0\n"},
		// Steps that cannot be come to are left out as others.
		{"end\nv0 = 1 0\nv0 = 1 3\nout v0 0\n", "end\nskip 0\nv0 = 1 3\nout v0 0\n"},
		{"v0 = 1 2\nout v0 2\nend\n", "skip 2\nout v0 2\nend\n"},
		{"end\n", ""},
	})
}

func TestWhatNobodyNeedsAgainstWays(t *testing.T) {
	left := 0
	check := func(p impl.Prog) {
		got, want := impl.LiveDead(p), deadByWays(p)
		if !sameProg(got, want) {
			t.Fatalf("%q: %q, not %q", impl.ProgWrite(p), impl.ProgWrite(got), impl.ProgWrite(want))
		}
		if !sameProg(got, p) {
			left++
		}
	}
	manyWastes(check)
	d := &dice{state: 124}
	for size := 1; size <= impl.ProgMax; size++ {
		check(d.prog(size))
		check(d.alike(size))
	}
	atLeast(t, 10000, left)
}

// Where steps stand does not matter to the passes that leave them at their places: what becomes of each goes with it.
func TestPassesInShuffledSteps(t *testing.T) {
	d := &dice{state: 125}
	greatWastes(2, impl.ProgMax, 6, func(p impl.Prog) {
		q, to := d.shuffled(p)
		live, moved := impl.LiveOf(p), impl.LiveOf(q)
		for at, there := range to {
			if !slices.Equal(live[at], moved[there]) {
				t.Fatalf("%q, step %d: needed otherwise in %q", impl.ProgWrite(p), at, impl.ProgWrite(q))
			}
		}
		for name, pass := range livePasses() {
			if name == "skip" {
				continue
			}
			once, elsewhere := pass(p), pass(q)
			for at, s := range once.Steps {
				for k, next := range s.Next {
					s.Next[k] = to[next]
				}
				if !sameStep(s, elsewhere.Steps[to[at]]) {
					t.Fatalf("%s %q, step %d: otherwise in %q", name, impl.ProgWrite(p), at, impl.ProgWrite(q))
				}
			}
		}
	})
}

// What cannot be come to matters to no other step.
func TestWhatCannotBeComeToIsNotNeeded(t *testing.T) {
	d := &dice{state: 126}
	tried := 0
	greatWastes(1, impl.ProgMax-5, 8, func(p impl.Prog) {
		q := d.astray(p)
		if !sameLists(impl.LiveOf(q)[:len(p.Steps)], impl.LiveOf(p)) {
			t.Fatalf("%q: needed otherwise than in %q", impl.ProgWrite(q), impl.ProgWrite(p))
		}
		for name, pass := range livePasses() {
			got, want := pass(q), pass(p)
			if name != "skip" {
				got.Steps = got.Steps[:len(p.Steps)]
			}
			if !sameProg(got, want) {
				t.Fatalf("%s %q: %q, not %q", name, impl.ProgWrite(q), impl.ProgWrite(got), impl.ProgWrite(want))
			}
		}
		tried++
	})
	atLeast(t, 500, tried)
}

// The greatest programs: what is needed goes from one end to the other, also against the order of places.
func TestWhatIsNeededInTheGreatest(t *testing.T) {
	size := impl.ProgMax
	row := func(from, to int) []bool {
		list := make([]bool, size)
		for at := from; at < to; at++ {
			list[at] = true
		}
		return list
	}
	onward, ring := straight(size-1, impl.Step{Kind: impl.StepEnd}), impl.Prog{}
	for at := range onward.Steps[:size-2] {
		onward.Steps[at] = impl.Step{Kind: impl.StepSkip, Next: []int{at + 1}}
	}
	// The first leads to the last place, and from there back from place to place to the step 1, which ends.
	back := impl.Prog{Steps: []impl.Step{{Kind: impl.StepSkip, Next: []int{size - 1}}, {Kind: impl.StepEnd}, {Kind: impl.StepOut, A: variable(2), Next: []int{1}}}}
	for at := 3; at < size; at++ {
		back.Steps = append(back.Steps, impl.Step{Kind: impl.StepSkip, Next: []int{at - 1}})
	}
	for at := range size {
		ring.Steps = append(ring.Steps, impl.Step{Kind: impl.StepSkip, Next: []int{(at + 1) % size}})
	}
	used := cloneProg(ring)
	used.Steps[31] = impl.Step{Kind: impl.StepOut, A: variable(2), Next: []int{32}}
	changed := cloneProg(used)
	changed.Steps[11] = impl.Step{Kind: impl.StepIn, Dst: 2, Next: []int{12}}
	backward := row(0, size)
	backward[1] = false
	for i, c := range []struct {
		p    impl.Prog
		want []bool
	}{
		{onward, row(0, size-1)},
		{back, backward},
		{ring, row(0, 0)},
		{used, row(0, size)},
	} {
		for at, list := range impl.LiveOf(c.p) {
			if list[2] != c.want[at] || countOf(list) > 1 || countOf(list) > 0 && !list[2] {
				t.Errorf("%d: step %d: %v", i, at, list)
			}
		}
	}
	for at, list := range impl.LiveOf(changed) {
		if list[2] != (at >= 12 && at <= 31) {
			t.Errorf("changed: step %d: %v", at, list)
		}
	}
}

// The programs of these tests have what the document names, else the other tests tell little.
func TestManyWastesHaveAllThereIs(t *testing.T) {
	counts := map[string]int{}
	manyWastes(func(p impl.Prog) {
		countWaste(p, counts)
	})
	for _, name := range []string{
		"needed on one way alone", "changes what it uses, set", "changes what it uses, copy", "a copy to itself", "nobody needs what comes in", "a row of skips", "a skip to itself", "a ring of skips", "the first leads on by skips",
		"the first leads round", "the first leads to one to which others lead", "a choice by 0", "a choice by 1", "a choice by another", "two numbers", "both ways come to be one", "a copy of a copy", "a copy of a number is used", "both operands are copies",
		"a copy at the first step", "a copy holds of several ways", "a copy on one of the ways alone", "not reached, and used", "of one step", "of the greatest size", "skips alone",
	} {
		if counts[name] < 30 {
			t.Errorf("%s: only %d", name, counts[name])
		}
	}
}

func countWaste(p impl.Prog, counts map[string]int) {
	q, reach, live := copiedByWays(p), reachWithout(p, -1), neededByWays(p)
	ahead := predsByAsking(p)
	list := copyings(p)
	for at, s := range p.Steps {
		told, next := q.Steps[at], s.Next
		set, test := s.Kind == impl.StepSet, s.Kind == impl.StepTest
		for name, is := range map[string]bool{
			"needed on one way alone":      test && !slices.Equal(live[next[0]], live[next[1]]),
			"changes what it uses, set":    set && usesOf(s, s.Dst),
			"changes what it uses, copy":   s.Kind == impl.StepCopy && usesOf(s, s.Dst) && !sameStep(s, told),
			"a copy to itself":             s.Kind == impl.StepCopy && s.A == variable(s.Dst),
			"nobody needs what comes in":   s.Kind == impl.StepIn && !live[next[0]][s.Dst],
			"a row of skips":               isSkip(s) && isSkip(p.Steps[next[0]]) && isSkip(p.Steps[p.Steps[next[0]].Next[0]]) && !leadsRound(p, at),
			"a skip to itself":             isSkip(s) && next[0] == at && reach[at],
			"a ring of skips":              reach[at] && isSkip(s) && next[0] != at && leadsRound(p, at),
			"a choice by 0":                test && s.A == num(0),
			"a choice by 1":                test && s.A == num(1),
			"a choice by another":          test && s.A.Var < 0 && s.A.Num > 1,
			"two numbers":                  set && s.A.Var < 0 && s.B.Var < 0,
			"a copy of a copy":             s.Kind == impl.StepCopy && told.A.Var >= 0 && told.A != s.A,
			"a copy of a number is used":   s.A.Var >= 0 && told.A.Var < 0,
			"both operands are copies":     set && told.A != s.A && told.B != s.B,
			"a copy at the first step":     at == 0 && s.Kind == impl.StepCopy && s.A != variable(s.Dst),
			"a copy holds of several ways": told.A != s.A && len(ahead[at]) > 1,
			"a copy on one of the ways alone": sameStep(s, told) && slices.ContainsFunc(list, func(c copying) bool {
				return usesOf(s, c.dst) && someOf(ahead[at], func(from int) bool { return c.isAt(p.Steps[from]) })
			}),
			"not reached, and used":                       !reach[at] && slices.ContainsFunc(list, func(c copying) bool { return usesOf(s, c.dst) }),
			"both ways come to be one":                    test && next[0] != next[1] && endOfSkips(p, next[0]) == endOfSkips(p, next[1]),
			"the first leads on by skips":                 at == 0 && isSkip(s) && !leadsRound(p, 0),
			"the first leads round":                       at == 0 && leadsRound(p, 0),
			"the first leads to one to which others lead": at == 0 && isSkip(s) && !leadsRound(p, 0) && len(ahead[endOfSkips(p, 0)]) > 1,
		} {
			if is {
				counts[name]++
			}
		}
	}
	for name, is := range map[string]bool{
		"of one step":          len(p.Steps) == 1,
		"of the greatest size": len(p.Steps) == impl.ProgMax,
		"skips alone":          !slices.ContainsFunc(p.Steps, func(s impl.Step) bool { return !isSkip(s) }),
	} {
		if is {
			counts[name]++
		}
	}
}

// endOfSkips is where one comes to from a place by skips, behind as many as there are steps.
func endOfSkips(p impl.Prog, at int) int {
	for range p.Steps {
		if isSkip(p.Steps[at]) {
			at = p.Steps[at].Next[0]
		}
	}
	return at
}
