package tests

import (
	"math"
	"slices"
	"testing"

	"loop.example/causey/impl"
)

// An ordinary program: numbers come in until one is 0; of each is let out the sum so far and, if the number is less than 10, a hundred times that.
const sumsText = "v0 = in 1\ntest v0 2 7\nv1 = v1 + v0 3\nout v1 4\nv2 = v0 < 10 5\ntest v2 6 0\nv3 = v1 * 100 8\nend\nout v3 0\n"

func TestRunCodesAndLimit(t *testing.T) {
	got := []int{impl.RunEnded, impl.RunLong, impl.RunDry, impl.RunBad, impl.RunMax}
	if want := []int{0, 1, 2, 9, 600}; !slices.Equal(got, want) {
		t.Errorf("%v, not %v", got, want)
	}
}

// By hand: choices, ways back, where input lacks, and where the bound is.
func TestOrdinaryRuns(t *testing.T) {
	for _, c := range []struct {
		text string
		in   []int
		most int
		want impl.Result
	}{
		{sumsText, []int{3, 20, 0}, 100, impl.Result{Code: 0, Outs: []int{3, 300, 23}, Path: []int{0, 1, 2, 3, 4, 5, 6, 8, 0, 1, 2, 3, 4, 5, 0, 1, 7}}},
		{sumsText, []int{3, 20}, 100, impl.Result{Code: 2, Outs: []int{3, 300, 23}, Path: []int{0, 1, 2, 3, 4, 5, 6, 8, 0, 1, 2, 3, 4, 5, 0}}},
		{sumsText, []int{3, 20, 0}, 4, impl.Result{Code: 1, Outs: []int{3}, Path: []int{0, 1, 2, 3}}},
		{sumsText, []int{3, 20, 0}, 3, impl.Result{Code: 1, Path: []int{0, 1, 2}}},
		{sumsText, []int{0, 9, 9}, 100, impl.Result{Code: 0, Path: []int{0, 1, 7}}},
		{sumsText, []int{9, 65535, 0}, 100, impl.Result{Code: 0, Outs: []int{9, 900, 8}, Path: []int{0, 1, 2, 3, 4, 5, 6, 8, 0, 1, 2, 3, 4, 5, 0, 1, 7}}},
		{"v0 = in 1\nout v0 2\nv1 = v0 - 1 3\nout v1 4\nv1 = v1 * v1 5\nout v1 6\nend\n", []int{0}, 7, impl.Result{Code: 0, Outs: []int{0, 65535, 1}, Path: []int{0, 1, 2, 3, 4, 5, 6}}},
		{"test v5 1 2\nout 1 3\nout 0 3\nend\n", nil, 9, impl.Result{Code: 0, Outs: []int{0}, Path: []int{0, 2, 3}}},
		{"test 65535 1 2\nout 1 3\nout 0 3\nend\n", nil, 9, impl.Result{Code: 0, Outs: []int{1}, Path: []int{0, 1, 3}}},
		{"test 0 1 2\nout 1 3\nout 0 3\nend\n", nil, 9, impl.Result{Code: 0, Outs: []int{0}, Path: []int{0, 2, 3}}},
		{"v11 = 7 1\nv0 = v11 2\nv11 = 8 3\nout v0 4\nout v11 5\nout 9 6\nskip 7\nend\n", nil, 8, impl.Result{Code: 0, Outs: []int{7, 8, 9}, Path: []int{0, 1, 2, 3, 4, 5, 6, 7}}},
		{"v1 = v1 + 1 1\nv2 = 2 < v1 2\ntest v2 3 0\nout v1 4\nend\n", nil, 600, impl.Result{Code: 0, Outs: []int{3}, Path: []int{0, 1, 2, 0, 1, 2, 0, 1, 2, 3, 4}}},
	} {
		p := told(t, c.text)
		if got := impl.RunOf(p, c.in, c.most); !sameResult(got, c.want) {
			t.Errorf("%q, %v, %d: %v, not %v", c.text, c.in, c.most, got, c.want)
		}
	}
}

// Each Op in a step, with the operands in their order.
func TestEachReckoningOfARun(t *testing.T) {
	p := told(t, "v0 = in 1\nv1 = in 2\nv2 = v0 + v1 3\nout v2 4\nv2 = v0 - v1 5\nout v2 6\nv2 = v0 * v1 7\nout v2 8\nv2 = v0 < v1 9\nout v2 10\nend\n")
	for _, c := range []struct{ in, outs []int }{
		{[]int{7, 5}, []int{12, 2, 35, 0}},
		{[]int{5, 7}, []int{12, 65534, 35, 1}},
		{[]int{7, 7}, []int{14, 0, 49, 0}},
		{[]int{0, 0}, []int{0, 0, 0, 0}},
		{[]int{0, 65535}, []int{65535, 1, 0, 1}},
		{[]int{65535, 0}, []int{65535, 65535, 0, 0}},
		{[]int{65535, 65535}, []int{65534, 0, 1, 0}},
		{[]int{65535, 1}, []int{0, 65534, 65535, 0}},
		{[]int{256, 256}, []int{512, 0, 0, 0}},
		{[]int{32768, 32769}, []int{1, 65535, 32768, 1}},
	} {
		if got := impl.RunOf(p, c.in, 11); got.Code != impl.RunEnded || !slices.Equal(got.Outs, c.outs) {
			t.Errorf("%v: %v, not %v", c.in, got, c.outs)
		}
	}
}

func TestRunsAgainstAStory(t *testing.T) {
	seen := map[int]int{}
	full, mixed := 0, 0
	manyRuns(func(p impl.Prog, in []int) {
		events, code := story(p, in)
		for _, most := range mosts(len(events)) {
			want := cut(events, code, most)
			if got := impl.RunOf(p, in, most); !sameResult(got, want) {
				t.Fatalf("%q, %v, %d: %v, not %v", impl.ProgWrite(p), in, most, got, want)
			}
			seen[want.Code]++
			if len(want.Path) == impl.RunMax {
				full++
			}
			if len(slices.Compact(slices.Sorted(slices.Values(want.Outs)))) > 3 {
				mixed++
			}
		}
	})
	if seen[0] < 1000 || seen[1] < 1000 || seen[2] < 1000 || full < 500 || mixed < 500 {
		t.Errorf("only these ends were seen: %v; %d at RunMax, %d with several outs", seen, full, mixed)
	}
}

// straight is a program with so many steps ahead of its last.
func straight(ahead int, last impl.Step) impl.Prog {
	return chain(0, ahead, last)
}

// A run that is at its end, or lacks input, just at the last step that it may come to, is there; one step less is too few.
func TestEndsJustAtTheBound(t *testing.T) {
	end := impl.Step{Kind: impl.StepEnd}
	in := impl.Step{Kind: impl.StepIn, Next: []int{0}}
	for _, ahead := range []int{0, 1, 2, 17, 59} {
		for _, c := range []struct {
			last impl.Step
			code int
		}{{end, impl.RunEnded}, {in, impl.RunDry}} {
			p := straight(ahead, c.last)
			for _, most := range []int{ahead, ahead + 1, ahead + 2, impl.RunMax} {
				want := impl.Result{Code: c.code, Outs: make([]int, ahead)}
				for at := range min(ahead+1, most) {
					want.Path = append(want.Path, at)
				}
				if most == ahead {
					want.Code = impl.RunLong
				}
				if got := impl.RunOf(p, nil, most); !sameResult(got, want) {
					t.Errorf("%d ahead, at most %d: %v, not %v", ahead, most, got, want)
				}
			}
		}
	}
}

// A run of 600 steps just ends; one that needs 601 does not.
func TestTheLongestRuns(t *testing.T) {
	round := told(t, "v0 = in 1\nv1 = v1 + 1 2\nv2 = v1 < v0 3\ntest v2 1 4\nskip 5\nend\n")
	for _, c := range []struct{ rounds, length int }{{198, 597}, {199, 600}, {200, 603}} {
		got := impl.RunOf(round, []int{c.rounds}, impl.RunMax)
		code, length := impl.RunEnded, c.length
		if length > impl.RunMax {
			code, length = impl.RunLong, impl.RunMax
		}
		if got.Code != code || len(got.Path) != length {
			t.Errorf("%d rounds: code %d, %d steps", c.rounds, got.Code, len(got.Path))
		}
		if less := impl.RunOf(round, []int{c.rounds}, length-1); less.Code != impl.RunLong || len(less.Path) != length-1 {
			t.Errorf("%d rounds, a step less: code %d, %d steps", c.rounds, less.Code, len(less.Path))
		}
	}
	for _, text := range []string{"skip 0\n", "out 5 0\n", "test 1 0 0\n", "v0 = v0 + 1 0\n"} {
		if got := impl.RunOf(told(t, text), nil, impl.RunMax); got.Code != impl.RunLong || !slices.Equal(got.Path, make([]int, impl.RunMax)) {
			t.Errorf("%q: %v", text, got)
		}
	}
}

// Where input lacks: the StepIn is come to, and nothing behind it.
func TestWhereInputLacks(t *testing.T) {
	for _, c := range []struct {
		text string
		in   []int
		want impl.Result
	}{
		{"v0 = in 1\nend\n", nil, impl.Result{Code: 2, Path: []int{0}}},
		{"v0 = in 1\nend\n", []int{}, impl.Result{Code: 2, Path: []int{0}}},
		{"v0 = in 0\n", nil, impl.Result{Code: 2, Path: []int{0}}},
		{"v0 = in 0\n", []int{0, 0, 0}, impl.Result{Code: 2, Path: []int{0, 0, 0, 0}}},
		{"v0 = in 1\nv0 = in 2\nend\n", []int{4}, impl.Result{Code: 2, Path: []int{0, 1}}},
		{"out 3 1\nv0 = in 2\nout v0 3\nend\n", nil, impl.Result{Code: 2, Outs: []int{3}, Path: []int{0, 1}}},
		{"v0 = in 1\nout v0 2\nv1 = in 3\nend\n", []int{65535}, impl.Result{Code: 2, Outs: []int{65535}, Path: []int{0, 1, 2}}},
		{"v0 = in 1\nout v0 0\n", []int{8, 0, 8}, impl.Result{Code: 2, Outs: []int{8, 0, 8}, Path: []int{0, 1, 0, 1, 0, 1, 0}}},
		{"v0 = 9 1\nv0 = in 2\nout v0 3\nend\n", nil, impl.Result{Code: 2, Path: []int{0, 1}}},
		{"skip 2\nv0 = in 2\nend\n", nil, impl.Result{Code: 0, Path: []int{0, 2}}},
	} {
		p := told(t, c.text)
		for _, most := range []int{len(c.want.Path), len(c.want.Path) + 1, impl.RunMax} {
			if got := impl.RunOf(p, c.in, most); !sameResult(got, c.want) {
				t.Errorf("%q, %v, %d: %v, not %v", c.text, c.in, most, got, c.want)
			}
		}
		less := impl.RunOf(p, c.in, len(c.want.Path)-1)
		if want := runByStory(p, c.in, len(c.want.Path)-1); !sameResult(less, want) || less.Code != impl.RunLong {
			t.Errorf("%q, %v, a step less: %v, not %v", c.text, c.in, less, want)
		}
	}
}

func checkBad(t *testing.T, p impl.Prog, in []int, most int) {
	t.Helper()
	if got := impl.RunOf(p, in, most); !sameResult(got, impl.Result{Code: impl.RunBad}) {
		t.Errorf("%v, %v, %d: %v", p, in, most, got)
	}
}

func TestBoundsThatAreNone(t *testing.T) {
	for _, text := range []string{"end\n", "skip 0\n", "v0 = in 0\n", everyText, sumsText} {
		p := told(t, text)
		for _, most := range []int{math.MinInt, math.MinInt32, -600, -2, -1, impl.RunMax + 1, impl.RunMax + 2, 65536, math.MaxInt32, math.MaxInt} {
			checkBad(t, p, nil, most)
			checkBad(t, p, []int{1, 2, 3}, most)
		}
		for _, most := range []int{0, 1, impl.RunMax} {
			if got, want := impl.RunOf(p, nil, most), runByStory(p, nil, most); !sameResult(got, want) {
				t.Errorf("%q, %d: %v, not %v", text, most, got, want)
			}
		}
	}
}

// What comes in must be numbers, at each place, also where nobody takes it, and of a run of no steps.
func TestInputThatIsNone(t *testing.T) {
	for _, text := range []string{"end\n", "skip 0\n", "v0 = in 1\nend\n", "v0 = in 1\nout v0 0\n", sumsText} {
		p := told(t, text)
		for _, wrong := range []int{math.MinInt, math.MinInt32, -65536, -2, -1, impl.ProgNum, impl.ProgNum + 1, 1 << 32, math.MaxInt} {
			for size := 1; size <= 5; size++ {
				for at := range size {
					in := []int{1, 0, 65535, 2, 3}[:size]
					in[at] = wrong
					for _, most := range []int{0, 1, impl.RunMax} {
						checkBad(t, p, in, most)
					}
				}
			}
		}
		for _, fine := range []int{0, impl.ProgNum - 1} {
			in := []int{fine, fine, fine}
			if got, want := impl.RunOf(p, in, 9), runByStory(p, in, 9); got.Code == impl.RunBad || !sameResult(got, want) {
				t.Errorf("%q, %v: %v, not %v", text, in, got, want)
			}
		}
	}
}

// Only steps of a run are bounded, not what comes in.
func TestMuchInput(t *testing.T) {
	in := make([]int, 100000)
	for i := range in {
		in[i] = i % impl.ProgNum
	}
	p := told(t, "v0 = in 1\nout v0 0\n")
	got := impl.RunOf(p, in, impl.RunMax)
	if got.Code != impl.RunLong || !slices.Equal(got.Outs, in[:impl.RunMax/2]) {
		t.Error(got)
	}
	in[len(in)-1] = impl.ProgNum
	checkBad(t, p, in, impl.RunMax)
	in[len(in)-1] = -1
	checkBad(t, p, in, 0)
}

func TestProgramsThatDoNotRun(t *testing.T) {
	for _, p := range wrongProgs() {
		for _, in := range [][]int{nil, {1, 2, 3}, {-1}} {
			for _, most := range []int{-1, 0, 1, impl.RunMax, impl.RunMax + 1} {
				checkBad(t, p, in, most)
			}
		}
	}
	d := &dice{state: 32}
	for size := 1; size <= impl.ProgMax; size++ {
		p := d.runner(size)
		p.Steps[d.roll(size)].Dst = impl.ProgVars
		checkBad(t, p, d.input(), impl.RunMax)
		q := d.runner(size)
		q.Steps[d.roll(size)].Kind = []int{0, 8, -1, math.MaxInt}[d.roll(4)]
		checkBad(t, q, d.input(), impl.RunMax)
	}
}
