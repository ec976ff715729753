package tests

import (
	"slices"
	"testing"

	"loop.example/causey/impl"
)

// Promise 19.
func TestWhatIsNearestOver(t *testing.T) {
	manyLoops(func(p impl.Prog) {
		doms := impl.FlowDoms(p)
		over := impl.LoopOver(p)
		if len(over) != len(p.Steps) {
			t.Fatalf("%v: %v", p, over)
		}
		for at, near := range over {
			if near == -1 {
				if countOf(doms[at]) > 1 {
					t.Fatalf("%v: over %d stand some: %v", p, at, over)
				}
				continue
			}
			if near == at || !doms[at][near] {
				t.Fatalf("%v: %d is not over %d", p, near, at)
			}
			for other, yes := range doms[at] {
				if yes && other != at && !doms[near][other] {
					t.Fatalf("%v: %d is over %d, not over %d", p, other, at, near)
				}
			}
		}
	})
}

// Promise 20.
func TestFromOverToOver(t *testing.T) {
	manyLoops(func(p impl.Prog) {
		over := impl.LoopOver(p)
		for from, can := range reachWithout(p, -1) {
			at := from
			for range p.Steps {
				if over[at] != -1 {
					at = over[at]
				}
			}
			if over[at] != -1 || (at == 0) != can || !can && at != from {
				t.Fatalf("%v: from %d to %d: %v", p, from, at, over)
			}
		}
	})
}

// Promise 21.
func TestWhereWhatAStepStandsOverEnds(t *testing.T) {
	manyLoops(func(p impl.Prog) {
		doms, preds := impl.FlowDoms(p), impl.FlowPreds(p)
		fronts := impl.LoopFront(p)
		if len(fronts) != len(p.Steps) {
			t.Fatalf("%v: %v", p, fronts)
		}
		for at, front := range fronts {
			if !ascending(front) {
				t.Fatalf("%v: front of %d: %v", p, at, front)
			}
			for to := range p.Steps {
				leads := false
				for _, from := range preds[to] {
					leads = leads || doms[from][at]
				}
				want := leads && (to == at || !doms[to][at])
				if slices.Contains(front, to) != want {
					t.Fatalf("%v: front of %d: %v: %d", p, at, front, to)
				}
			}
		}
	})
}

func ascending(list []int) bool {
	for i := 1; i < len(list); i++ {
		if list[i-1] >= list[i] {
			return false
		}
	}
	return true
}

// Promise 22.
func TestATidyProgramEndsWhereWaysMeet(t *testing.T) {
	ends := 0
	manyLoops(func(p impl.Prog) {
		q, ok := impl.FlowTidy(p)
		if !ok {
			return
		}
		for at, front := range impl.LoopFront(q) {
			for _, to := range front {
				ends++
				if ways := waysLeadingTo(q, to); ways < 2 {
					t.Fatalf("%v: what %d stands over ends at %d", q, at, to)
				}
			}
		}
	})
	if ends < 1000 {
		t.Errorf("only %d ends", ends)
	}
}

func waysLeadingTo(p impl.Prog, to int) int {
	ways := 0
	for _, s := range p.Steps {
		for _, next := range s.Next {
			if next == to {
				ways++
			}
		}
	}
	return ways
}

// Promise 23.
func TestAHeadStandsOverItsLoop(t *testing.T) {
	manyLoops(func(p impl.Prog) {
		doms, preds := impl.FlowDoms(p), impl.FlowPreds(p)
		heads := impl.LoopHeads(p)
		if len(heads) != len(p.Steps) {
			t.Fatalf("%v: %v", p, heads)
		}
		for head, is := range heads {
			backs := waysBack(doms, preds, head)
			loop := impl.LoopOf(p, head)
			if is != (len(backs) > 0) || loop[head] != is {
				t.Fatalf("%v: head %d: %v", p, head, heads)
			}
			for _, from := range backs {
				if !loop[from] {
					t.Fatalf("%v: a way leads back from %d to %d", p, from, head)
				}
			}
			for at, in := range loop {
				if in && !doms[at][head] {
					t.Fatalf("%v: %d is not over %d of its loop", p, head, at)
				}
			}
		}
	})
}

// Promise 24.
func TestALoopIsClosed(t *testing.T) {
	manyLoops(func(p impl.Prog) {
		preds := impl.FlowPreds(p)
		for head := range p.Steps {
			loop := impl.LoopOf(p, head)
			for at, in := range loop {
				if !in {
					continue
				}
				for _, from := range preds[at] {
					if at != head && !loop[from] {
						t.Fatalf("%v: %d is ahead of %d, and not in the loop of %d", p, from, at, head)
					}
				}
				if !slices.ContainsFunc(p.Steps[at].Next, func(next int) bool { return loop[next] }) {
					t.Fatalf("%v: no way leads on from %d in the loop of %d", p, at, head)
				}
			}
		}
	})
}

// Promise 25.
func TestOfTwoLoopsOneIsInTheOther(t *testing.T) {
	inside, apart := 0, 0
	manyLoops(func(p impl.Prog) {
		var loops [][]bool
		for head, is := range impl.LoopHeads(p) {
			if is {
				loops = append(loops, impl.LoopOf(p, head))
			}
		}
		for i, a := range loops {
			for _, b := range loops[:i] {
				common := 0
				for at := range a {
					if a[at] && b[at] {
						common++
					}
				}
				switch common {
				case 0:
					apart++
				case countOf(a), countOf(b):
					inside++
				default:
					t.Fatalf("%v: %s and %s", p, row(a), row(b))
				}
			}
		}
	})
	if inside < 1000 || apart < 1000 {
		t.Errorf("only %d in another, %d apart", inside, apart)
	}
}

// Promise 26.
func TestInHowManyLoopsAStepIs(t *testing.T) {
	manyLoops(func(p impl.Prog) {
		heads, deep := impl.LoopHeads(p), impl.LoopDeep(p)
		have := make([]int, len(p.Steps))
		for head, is := range heads {
			for at, in := range impl.LoopOf(p, head) {
				if in && is {
					have[at]++
				}
			}
		}
		if !slices.Equal(deep, have) {
			t.Fatalf("%v: %v, not %v", p, deep, have)
		}
		for at, is := range heads {
			if is && deep[at] < 1 {
				t.Fatalf("%v: the head %d is in no loop", p, at)
			}
		}
	})
}

// onward is a program whose ways all lead on.
func (d *dice) onward(size int) impl.Prog {
	p := d.flow(size)
	for i := range p.Steps {
		s := &p.Steps[i]
		if i == size-1 {
			*s = impl.Step{Kind: impl.StepEnd}
		}
		for k := range s.Next {
			s.Next[k] = i + 1 + d.roll(size-i-1)
		}
	}
	return p
}

// Promise 27.
func TestNoLoopWhereAllWaysLeadOn(t *testing.T) {
	d := &dice{state: 43}
	for size := 1; size <= impl.ProgMax; size++ {
		for range 40 {
			p := d.onward(size)
			if !okByTable(p) {
				t.Fatalf("%v is not ok", p)
			}
			for head := range p.Steps {
				if slices.Contains(impl.LoopOf(p, head), true) {
					t.Fatalf("%v: %d has a loop", p, head)
				}
			}
			if countOf(impl.LoopHeads(p)) > 0 || slices.Max(impl.LoopDeep(p)) > 0 {
				t.Fatalf("%v: a loop", p)
			}
		}
	}
}
