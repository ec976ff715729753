package tests

import (
	"math"
	"slices"
	"testing"

	"loop.example/causey/impl"
)

// loopCase is a program, and by hand what is told of its loops; loops are told of heads alone, in order.
type loopCase struct {
	text  string
	over  []int
	front [][]int
	heads string
	loops []string
	deep  []int
}

func checkCase(t *testing.T, c loopCase) {
	t.Helper()
	p := told(t, c.text)
	if got := impl.LoopOver(p); !slices.Equal(got, c.over) {
		t.Errorf("%q: over %v", c.text, got)
	}
	if got := impl.LoopFront(p); !sameLists(got, c.front) {
		t.Errorf("%q: front %v", c.text, got)
	}
	if got := row(impl.LoopHeads(p)); got != c.heads {
		t.Errorf("%q: heads %s", c.text, got)
	}
	if got := impl.LoopDeep(p); !slices.Equal(got, c.deep) {
		t.Errorf("%q: deep %v", c.text, got)
	}
	loops := c.loops
	for at, head := range c.heads {
		want := row(make([]bool, len(p.Steps)))
		if head == '1' {
			want, loops = loops[0], loops[1:]
		}
		if got := row(impl.LoopOf(p, at)); got != want {
			t.Errorf("%q: loop of %d: %s, not %s", c.text, at, got, want)
		}
	}
}

// Two loops beside each other in a third one, and a fourth behind it.
const loopsText = "v0 = in 1\ntest v0 2 9\nv1 = v0 + 1 3\ntest v1 4 6\nout v1 5\nv1 = v1 - 1 3\ntest v2 6 7\nv0 = v0 - 1 8\nskip 1\ntest v3 10 11\nout v3 9\nend\n"

func TestOrdinaryLoops(t *testing.T) {
	checkCase(t, loopCase{
		text:  loopsText,
		over:  []int{-1, 0, 1, 2, 3, 4, 3, 6, 7, 1, 9, 9},
		front: [][]int{{}, {1}, {1}, {1, 3}, {3}, {3}, {1, 6}, {1}, {1}, {9}, {9}, {}},
		heads: "010100100100",
		loops: []string{"011111111000", "000111000000", "000000100000", "000000000110"},
		deep:  []int{0, 1, 1, 2, 2, 2, 2, 1, 1, 1, 1, 0},
	})
	checkCase(t, loopCase{
		text:  ordinaryText,
		over:  []int{-1, 0, 1, -1, 1, 1, 5, -1, 6},
		front: [][]int{{}, {1}, {5}, {}, {5}, {1}, {1}, {}, {}},
		heads: "010000000",
		loops: []string{"011011100"},
		deep:  []int{0, 1, 1, 0, 1, 1, 1, 0, 0},
	})
}

func TestLoopsAtTheEdges(t *testing.T) {
	for _, c := range []loopCase{
		{"end\n", []int{-1}, [][]int{{}}, "0", nil, []int{0}},
		// The first step leads to itself.
		{"skip 0\n", []int{-1}, [][]int{{0}}, "1", []string{"1"}, []int{1}},
		{"test v0 0 0\n", []int{-1}, [][]int{{0}}, "1", []string{"1"}, []int{1}},
		// A step whose way leads to itself, alone and in a loop.
		{"skip 1\ntest v0 1 2\nend\n", []int{-1, 0, 1}, [][]int{{}, {1}, {}}, "010", []string{"010"}, []int{0, 1, 0}},
		{"skip 1\nout 1 1\n", []int{-1, 0}, [][]int{{}, {1}}, "01", []string{"01"}, []int{0, 1}},
		{"skip 1\ntest v0 1 0\n", []int{-1, 0}, [][]int{{0}, {0, 1}}, "11", []string{"11", "01"}, []int{1, 2}},
		{"skip 1\ntest v0 1 2\ntest v0 1 3\nend\n", []int{-1, 0, 1, 2}, [][]int{{}, {1}, {1}, {}}, "0100", []string{"0110"}, []int{0, 1, 1, 0}},
		// A choice whose both ways are one: on, back, and to itself.
		{"test v0 1 1\nend\n", []int{-1, 0}, [][]int{{}, {}}, "00", nil, []int{0, 0}},
		{"test v0 1 1\ntest v0 0 0\n", []int{-1, 0}, [][]int{{0}, {0}}, "10", []string{"11"}, []int{1, 1}},
		{"skip 1\ntest v0 1 1\n", []int{-1, 0}, [][]int{{}, {1}}, "01", []string{"01"}, []int{0, 1}},
		// A head with several ways back.
		{"skip 1\ntest v0 2 3\nskip 1\ntest v0 1 4\nend\n", []int{-1, 0, 1, 1, 3}, [][]int{{}, {1}, {1}, {1}, {}}, "01000", []string{"01110"}, []int{0, 1, 1, 1, 0}},
		{"test v0 1 3\ntest v0 0 2\ntest v0 0 3\nend\n", []int{-1, 0, 1, 0}, [][]int{{0}, {0, 3}, {0, 3}, {}}, "1000", []string{"1110"}, []int{1, 1, 1, 0}},
		// Ways back to a step that does not stand over where they come from: alone, and in a loop.
		{"test v0 1 2\ntest v0 2 3\ntest v0 1 3\nend\n", []int{-1, 0, 0, 0}, [][]int{{}, {2, 3}, {1, 3}, {}}, "0000", nil, []int{0, 0, 0, 0}},
		{"test v0 1 2\ntest v0 2 0\nskip 1\n", []int{-1, 0, 0}, [][]int{{0}, {0, 2}, {1}}, "100", []string{"111"}, []int{1, 1, 1}},
		// Steps that cannot be come to: such as lead into a loop, to the first, round, and where no ways meet else.
		{"skip 1\ntest v0 1 2\nend\nskip 1\n", []int{-1, 0, 1, -1}, [][]int{{}, {1}, {}, {}}, "0100", []string{"0100"}, []int{0, 1, 0, 0}},
		{"skip 1\nskip 2\nskip 1\ntest v0 2 1\n", []int{-1, 0, 1, -1}, [][]int{{}, {1}, {1}, {}}, "0100", []string{"0110"}, []int{0, 1, 1, 0}},
		{"end\nskip 0\n", []int{-1, -1}, [][]int{{}, {}}, "00", nil, []int{0, 0}},
		{"end\nskip 2\nskip 1\nskip 3\n", []int{-1, -1, -1, -1}, [][]int{{}, {}, {}, {}}, "0000", nil, []int{0, 0, 0, 0}},
		{"skip 1\nskip 2\nend\nskip 2\n", []int{-1, 0, 1, -1}, [][]int{{}, {}, {}, {}}, "0000", nil, []int{0, 0, 0, 0}},
		// A head behind its loop, by places.
		{"skip 3\nend\nskip 3\ntest v0 2 1\n", []int{-1, 3, 3, 0}, [][]int{{}, {}, {3}, {3}}, "0001", []string{"0011"}, []int{0, 0, 1, 1}},
		// A way out of two loops at once, and a way back out of the inner one past its head.
		{"skip 1\nskip 2\ntest v0 3 5\ntest v1 2 4\ntest v2 1 5\nend\n", []int{-1, 0, 1, 2, 3, 2}, [][]int{{}, {1}, {1, 2}, {1, 2, 5}, {1, 5}, {}}, "011000", []string{"011110", "001100"}, []int{0, 1, 2, 2, 1, 0}},
		{"skip 1\ntest v0 2 4\ntest v1 3 1\ntest v2 2 1\nend\n", []int{-1, 0, 1, 2, 1}, [][]int{{}, {1}, {1, 2}, {1, 2}, {}}, "01100", []string{"01110", "00110"}, []int{0, 1, 2, 2, 0}},
	} {
		checkCase(t, c)
	}
}

func TestLoopsByAsking(t *testing.T) {
	manyLoops(func(p impl.Prog) {
		if got, want := loopsOf(p), loopsByAsking(p); !sameLoops(got, want) {
			t.Fatalf("%q: %v, not %v", impl.ProgWrite(p), got, want)
		}
	})
}

// The programs of the tests have what the document names, else the other tests tell little.
func TestManyLoopsHaveAllThereIs(t *testing.T) {
	counts := map[string]int{}
	manyLoops(func(p impl.Prog) {
		doms, preds, l := domsByShutting(p), predsByAsking(p), loopsByAsking(p)
		reach := reachWithout(p, -1)
		for at, s := range p.Steps {
			if len(waysBack(doms, preds, at)) > 1 {
				counts["several ways back"]++
			}
			if reach[at] && slices.Contains(s.Next, at) {
				counts["a way to itself"]++
			}
			if l.deep[at] > 4 {
				counts["in five loops"]++
			}
			if l.heads[at] && l.deep[at] == 1 && !slices.Contains(l.deep, 2) && at > 0 {
				counts["a loop alone"]++
			}
			if reach[at] && l.deep[at] == 0 && goesRound(p, at) {
				counts["round without a head"]++
			}
			for _, next := range s.Next {
				if !reach[at] && l.deep[next] > 0 {
					counts["from what cannot be come to into a loop"]++
				}
			}
		}
		if l.heads[0] {
			counts["back to the first"]++
		}
	})
	for _, name := range []string{"several ways back", "a way to itself", "in five loops", "a loop alone", "round without a head", "from what cannot be come to into a loop", "back to the first"} {
		if counts[name] < 100 {
			t.Errorf("%s: only %d", name, counts[name])
		}
	}
}

// goesRound says whether one comes from a step to it again.
func goesRound(p impl.Prog, at int) bool {
	for _, next := range p.Steps[at].Next {
		if goesTo(p, next, -1, []int{at}) {
			return true
		}
	}
	return false
}

// Loops do not hang on the places at which steps stand.
func TestLoopsOfShuffledSteps(t *testing.T) {
	d := &dice{state: 42}
	manyLoops(func(p impl.Prog) {
		q, to := d.shuffled(p)
		if got, want := loopsOf(q), loopsOf(p).moved(to); !sameLoops(got, want) {
			t.Fatalf("%q: %v, not %v", impl.ProgWrite(q), got, want)
		}
	})
}

// Tidying puts skips on ways alone: who stands over whom, heads, and what is in their loops stay so.
func TestLoopsOfATidiedProgram(t *testing.T) {
	manyLoops(func(p impl.Prog) {
		q, ok := impl.FlowTidy(p)
		if !ok {
			return
		}
		to, before, after := placesInTidy(p), loopsOf(p), loopsOf(q)
		if countOf(before.heads) != countOf(after.heads) {
			t.Fatalf("%v: other heads: %v", p, q)
		}
		reach := reachWithout(p, -1)
		for at, there := range to {
			if !reach[at] {
				continue
			}
			if before.heads[at] != after.heads[there] || before.deep[at] != after.deep[there] {
				t.Fatalf("%v: step %d: %v", p, at, q)
			}
			if overPastNew(after.over, to, reach, there) != before.over[at] {
				t.Fatalf("%v: over %d: %v", p, at, q)
			}
			for in, can := range reach {
				if can && before.loops[at][in] != after.loops[there][to[in]] {
					t.Fatalf("%v: %d in the loop of %d: %v", p, in, at, q)
				}
			}
		}
	})
}

// overPastNew is where the nearest step over one of a tidied program stood before, past those that tidying has added; -1, if there is none.
func overPastNew(over, to []int, reach []bool, at int) int {
	up := over[at]
	for range over {
		if up == -1 {
			break
		}
		for before, there := range to {
			if reach[before] && there == up {
				return before
			}
		}
		up = over[up]
	}
	return -1
}

func countOf(list []bool) int {
	count := 0
	for _, x := range list {
		if x {
			count++
		}
	}
	return count
}

// At the bound of steps: loops one in the other, one step each, one head with all ways back, a long ring, and a way back between each two.
func TestLoopsOfTheGreatest(t *testing.T) {
	var in, selves, star, ring, ladder impl.Prog
	test := func(a, b int) impl.Step {
		return impl.Step{Kind: impl.StepTest, A: variable(1), Next: []int{a, b}}
	}
	for i := range impl.ProgMax {
		on := min(i+1, 59)
		if i < 30 {
			in.Steps = append(in.Steps, impl.Step{Kind: impl.StepSkip, Next: []int{on}})
		} else {
			in.Steps = append(in.Steps, test(on, 59-i))
		}
		selves.Steps = append(selves.Steps, test(i, on))
		star.Steps = append(star.Steps, test(0, on))
		ring.Steps = append(ring.Steps, impl.Step{Kind: impl.StepSkip, Next: []int{(i + 1) % 60}})
		ladder.Steps = append(ladder.Steps, test(on, max(i-1, 0)))
	}
	for i, p := range []impl.Prog{in, selves, star, ring, ladder} {
		if got, want := loopsOf(p), loopsByAsking(p); !sameLoops(got, want) {
			t.Errorf("%d: %v, not %v", i, got, want)
		}
	}
	if deep := impl.LoopDeep(in); deep[0] != 1 || deep[29] != 30 || deep[30] != 30 || deep[31] != 29 {
		t.Error(deep)
	}
	if countOf(impl.LoopHeads(selves)) != 60 || countOf(impl.LoopHeads(star)) != 2 || countOf(impl.LoopOf(ring, 0)) != 60 {
		t.Error("heads")
	}
}

func TestTheLoopOfNoHead(t *testing.T) {
	manyFlows(func(p impl.Prog) {
		size := len(p.Steps)
		for _, head := range []int{-1, -2, -64, size, size + 1, 63, 64, 65, 128, 1 << 32, math.MaxInt, math.MinInt} {
			if head >= 0 && head < size {
				continue
			}
			if got := impl.LoopOf(p, head); len(got) != size || slices.Contains(got, true) {
				t.Fatalf("%v: loop of %d: %v", p, head, got)
			}
		}
		for at, head := range loopsByAsking(p).heads {
			if got := impl.LoopOf(p, at); len(got) != size || slices.Contains(got, true) != head {
				t.Fatalf("%v: loop of %d: %v", p, at, got)
			}
		}
	})
}

func TestLoopsOfWhatIsNotOk(t *testing.T) {
	for _, p := range wrongProgs() {
		if okByTable(p) {
			t.Fatalf("%v is ok", p)
		}
		if len(impl.LoopOver(p)) != 0 || len(impl.LoopFront(p)) != 0 || len(impl.LoopHeads(p)) != 0 || len(impl.LoopDeep(p)) != 0 {
			t.Errorf("%v: not nothing", p)
		}
		for _, head := range []int{math.MinInt, -1, 0, 1, 8, 59, 60, 64, math.MaxInt} {
			if len(impl.LoopOf(p, head)) != 0 {
				t.Errorf("%v: loop of %d", p, head)
			}
		}
	}
}
