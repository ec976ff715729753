package tests

import (
	"testing"

	"loop.example/causey/impl"
)

func TestReckoningsOfNumbersByHand(t *testing.T) {
	checkLeft(t, "fold", []leftCase{
		{"v0 = 3 + 4 1\nend\n", "v0 = 7 1\nend\n"},
		{"v3 = 9 - 4 1\nend\n", "v3 = 5 1\nend\n"},
		{"v11 = 3 * 4 1\nend\n", "v11 = 12 1\nend\n"},
		{"v0 = 3 < 4 1\nend\n", "v0 = 1 1\nend\n"},
		{"v0 = 4 < 4 1\nend\n", "v0 = 0 1\nend\n"},
		{"v0 = 4 < 3 1\nend\n", "v0 = 0 1\nend\n"},
		// Numbers go beyond what there is.
		{"v0 = 65535 + 1 1\nend\n", "v0 = 0 1\nend\n"},
		{"v0 = 65535 + 65535 1\nend\n", "v0 = 65534 1\nend\n"},
		{"v0 = 0 - 1 1\nend\n", "v0 = 65535 1\nend\n"},
		{"v0 = 0 - 65535 1\nend\n", "v0 = 1 1\nend\n"},
		{"v0 = 256 * 256 1\nend\n", "v0 = 0 1\nend\n"},
		{"v0 = 65535 * 65535 1\nend\n", "v0 = 1 1\nend\n"},
		{"v0 = 0 < 65535 1\nend\n", "v0 = 1 1\nend\n"},
		{"v0 = 65535 < 0 1\nend\n", "v0 = 0 1\nend\n"},
		// One operand is a variable, even if it comes to the same always.
		{"v0 = v1 + 4 1\nend\n", ""},
		{"v0 = 4 + v1 1\nend\n", ""},
		{"v0 = v0 - v0 1\nend\n", ""},
		{"v0 = v1 * 0 1\nend\n", ""},
		{"v0 = 0 * v0 1\nend\n", ""},
		// What follows from what is made is not looked at.
		{"v0 = 1 + 2 1\nv1 = v0 + 3 2\ntest v1 3 3\nend\n", "v0 = 3 1\nv1 = v0 + 3 2\ntest v1 3 3\nend\n"},
		// Choices by numbers.
		{"test 0 1 2\nout 1 2\nend\n", "skip 2\nout 1 2\nend\n"},
		{"test 1 1 2\nout 1 2\nend\n", "skip 1\nout 1 2\nend\n"},
		{"test 2 1 2\nout 1 2\nend\n", "skip 1\nout 1 2\nend\n"},
		{"test 65535 2 1\nout 1 2\nend\n", "skip 2\nout 1 2\nend\n"},
		{"test v0 1 2\nout 1 2\nend\n", ""},
		{"test 0 1 1\nend\n", "skip 1\nend\n"},
		{"test 7 0 1\nend\n", "skip 0\nend\n"},
		{"test 0 0 0\n", "skip 0\n"},
		// A step whose way leads to itself.
		{"v0 = 2 * 3 0\n", "v0 = 6 0\n"},
		// Steps that cannot be come to, too.
		{"end\nv0 = 2 * 3 0\ntest 0 1 2\n", "end\nv0 = 6 0\nskip 2\n"},
		// All others stay.
		{"v0 = 3 1\nout 4 2\nv1 = in 3\nskip 4\nend\n", ""},
		{"end\n", ""},
	})
}

// Each kind of reckoning, of numbers at the edges and others.
func TestEachReckoningOfNumbers(t *testing.T) {
	d := &dice{state: 128}
	numbers := []int{0, 1, 2, 3, 7, 255, 256, 257, 32767, 32768, 32769, 65534, 65535}
	for range 20 {
		numbers = append(numbers, d.roll(65536))
	}
	for op := impl.OpAdd; op <= impl.OpLess; op++ {
		for _, a := range numbers {
			for _, b := range numbers {
				p := impl.Prog{Steps: []impl.Step{{Kind: impl.StepSet, Dst: 5, Op: op, A: num(a), B: num(b), Next: []int{1}}, {Kind: impl.StepEnd}}}
				want := impl.Step{Kind: impl.StepCopy, Dst: 5, A: num(opByBig(op, a, b)), Next: []int{1}}
				if got := impl.LiveFold(p); len(got.Steps) != 2 || !sameStep(got.Steps[0], want) || !sameStep(got.Steps[1], p.Steps[1]) {
					t.Fatalf("%d, %d, %d: %v, not %v", op, a, b, got, want)
				}
			}
		}
	}
}

// Choices by each kind of number; what is none makes the program not ok.
func TestEachChoiceByANumber(t *testing.T) {
	for n := -3; n <= 65540; n++ {
		p := impl.Prog{Steps: []impl.Step{{Kind: impl.StepTest, A: num(n), Next: []int{1, 2}}, {Kind: impl.StepEnd}, {Kind: impl.StepEnd}}}
		got := impl.LiveFold(p)
		if n < 0 || n > 65535 {
			if len(got.Steps) != 0 {
				t.Fatalf("%d: %v", n, got)
			}
			continue
		}
		want := 1
		if n == 0 {
			want = 2
		}
		if !sameStep(got.Steps[0], impl.Step{Kind: impl.StepSkip, Next: []int{want}}) {
			t.Fatalf("%d: %v", n, got)
		}
	}
}

func TestReckoningsOfNumbersAgainstWrap(t *testing.T) {
	folded := 0
	check := func(p impl.Prog) {
		got, want := impl.LiveFold(p), foldedByWrap(p)
		if !sameProg(got, want) {
			t.Fatalf("%q: %q, not %q", impl.ProgWrite(p), impl.ProgWrite(got), impl.ProgWrite(want))
		}
		if !sameProg(got, p) {
			folded++
		}
	}
	greatWastes(1, impl.ProgMax, 20, check)
	manyReckoners(check)
	atLeast(t, 1000, folded)
}
