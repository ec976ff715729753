package tests

import (
	"slices"
	"testing"

	"loop.example/causey/impl"
)

// An ordinary program: a choice, a join, a way back to the choice, and two steps to which no way leads.
const ordinaryText = "v0 = in 1\ntest v0 2 4\nv1 = v0 + 1 5\nout v1 5\nv1 = 2 5\nout v1 6\ntest v1 1 8\nskip 3\nend\n"

func TestOrdinaryWays(t *testing.T) {
	p := told(t, ordinaryText)
	if got := row(impl.FlowReach(p)); got != "111011101" {
		t.Error("reach", got)
	}
	preds := [][]int{{}, {0, 6}, {1}, {}, {1}, {2, 4}, {5}, {}, {6}}
	if got := impl.FlowPreds(p); !sameLists(got, preds) {
		t.Error("preds", got)
	}
	doms := "100000000 110000000 111000000 000000000 110010000 110001000 110001100 000000000 110001101"
	if got := rows(impl.FlowDoms(p)); got != doms {
		t.Error("doms", got)
	}
	if impl.FlowIsTidy(p) {
		t.Error("tidy")
	}
}

func TestWaysAtTheEdges(t *testing.T) {
	for _, c := range []struct {
		text  string
		reach string
		preds [][]int
		doms  string
	}{
		{"end\n", "1", [][]int{{}}, "1"},
		{"skip 0\n", "1", [][]int{{0}}, "1"},
		{"test v0 0 0\n", "1", [][]int{{0}}, "1"},
		{"test v0 1 1\nend\n", "11", [][]int{{}, {0}}, "10 11"},
		{"test v0 0 1\nend\n", "11", [][]int{{0}, {0}}, "10 11"},
		{"out 1 1\nout 2 1\n", "11", [][]int{{}, {0, 1}}, "10 11"},
		{"out 1 1\ntest 2 1 0\n", "11", [][]int{{1}, {0, 1}}, "10 11"},
		{"end\nskip 0\nskip 2\ntest v0 1 0\n", "1000", [][]int{{}, {}, {}, {}}, "1000 0000 0000 0000"},
		{"skip 2\nend\ntest v1 0 1\n", "111", [][]int{{2}, {2}, {0}}, "100 111 101"},
		{"test v0 1 2\ntest v0 2 3\ntest v0 1 3\nend\n", "1111", [][]int{{}, {0, 2}, {0, 1}, {1, 2}}, "1000 1100 1010 1001"},
	} {
		p := told(t, c.text)
		if got := row(impl.FlowReach(p)); got != c.reach {
			t.Errorf("%q: reach %s", c.text, got)
		}
		if got := impl.FlowPreds(p); !sameLists(got, c.preds) {
			t.Errorf("%q: preds %v", c.text, got)
		}
		if got := rows(impl.FlowDoms(p)); got != c.doms {
			t.Errorf("%q: doms %s", c.text, got)
		}
	}
}

// Promise 4.
func TestWhatCanBeComeTo(t *testing.T) {
	manyFlows(func(p impl.Prog) {
		reach := impl.FlowReach(p)
		if len(reach) != len(p.Steps) || !reach[0] {
			t.Fatalf("%v: %v", p, reach)
		}
		for i, s := range p.Steps {
			for _, next := range s.Next {
				if reach[i] && !reach[next] {
					t.Fatalf("%v: %d is left out", p, next)
				}
			}
		}
		if !slices.Equal(reach, reachWithout(p, -1)) {
			t.Fatalf("%v: %v", p, reach)
		}
	})
}

// Promise 5.
func TestFromWhereWaysLead(t *testing.T) {
	manyFlows(func(p impl.Prog) {
		preds := impl.FlowPreds(p)
		if !sameLists(preds, predsByAsking(p)) {
			t.Fatalf("%v: %v", p, preds)
		}
	})
}

// Promises 6 and 7.
func TestWhatStandsOnEachWay(t *testing.T) {
	manyFlows(func(p impl.Prog) {
		doms := impl.FlowDoms(p)
		if len(doms) != len(p.Steps) {
			t.Fatalf("%v: %v", p, doms)
		}
		for i, can := range reachWithout(p, -1) {
			if len(doms[i]) != len(p.Steps) || doms[i][0] != can || doms[i][i] != can || !can && slices.Contains(doms[i], true) {
				t.Fatalf("%v: step %d: %v", p, i, doms[i])
			}
			checkOneUnderTheOther(t, p, doms, i)
		}
		if !sameLists(doms, domsByShutting(p)) {
			t.Fatalf("%v: %s", p, rows(doms))
		}
	})
}

func checkOneUnderTheOther(t *testing.T, p impl.Prog, doms [][]bool, third int) {
	t.Helper()
	for i, yes := range doms[third] {
		for k, too := range doms[third] {
			if yes && too && !doms[i][k] && !doms[k][i] {
				t.Fatalf("%v: %d and %d stand on each way to %d", p, i, k, third)
			}
		}
	}
}

// The longest ways, straight on and back, and nests of choices, at the bound of steps.
func TestWaysOfTheGreatest(t *testing.T) {
	var on, back, ladder impl.Prog
	for i := range impl.ProgMax {
		on.Steps = append(on.Steps, impl.Step{Kind: impl.StepSkip, Next: []int{min(i+1, 59)}})
		back.Steps = append(back.Steps, impl.Step{Kind: impl.StepTest, Next: []int{(i + 59) % 60, (i + 59) % 60}})
		ladder.Steps = append(ladder.Steps, impl.Step{Kind: impl.StepTest, Next: []int{min(i+1, 59), max(i-2, 0)}})
	}
	for _, p := range []impl.Prog{on, back, ladder} {
		if !sameLists(impl.FlowDoms(p), domsByShutting(p)) || !sameLists(impl.FlowPreds(p), predsByAsking(p)) || !slices.Equal(impl.FlowReach(p), reachWithout(p, -1)) {
			t.Errorf("%v", p)
		}
	}
}

func TestWaysOfWhatIsNotOk(t *testing.T) {
	for _, p := range wrongProgs() {
		if okByTable(p) {
			t.Fatalf("%v is ok", p)
		}
		if len(impl.FlowReach(p)) != 0 || len(impl.FlowPreds(p)) != 0 || len(impl.FlowDoms(p)) != 0 {
			t.Errorf("%v: not nothing", p)
		}
		if q, ok := impl.FlowTidy(p); ok || len(q.Steps) != 0 {
			t.Errorf("%v: tidied %v", p, q)
		}
		if impl.FlowIsTidy(p) {
			t.Errorf("%v: tidy", p)
		}
	}
}
