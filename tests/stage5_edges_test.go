package tests

import (
	"slices"
	"testing"

	"loop.example/causey/impl"
)

func TestReckoningsByHandAtTheEdges(t *testing.T) {
	for _, c := range []struct {
		text string
		list []string
		rows []exprRow
	}{
		// Turned about, by each operation; sums and products, too, though they come to the same.
		{"v2 = v0 + v1 1\nv2 = v1 + v0 2\nend\n", []string{"v0 + v1", "v1 + v0"}, []exprRow{{"v0 + v1", "100", "111"}, {"v1 + v0", "010", "111"}}},
		{"v2 = v0 - v1 1\nv2 = v1 - v0 2\nend\n", []string{"v0 - v1", "v1 - v0"}, []exprRow{{"v0 - v1", "100", "111"}, {"v1 - v0", "010", "111"}}},
		{"v2 = v0 * v1 1\nv2 = v1 * v0 2\nend\n", []string{"v0 * v1", "v1 * v0"}, []exprRow{{"v0 * v1", "100", "111"}, {"v1 * v0", "010", "111"}}},
		{"v2 = v0 < v1 1\nv2 = v1 < v0 2\nend\n", []string{"v0 < v1", "v1 < v0"}, []exprRow{{"v0 < v1", "100", "111"}, {"v1 < v0", "010", "111"}}},
		{"v2 = 3 + v3 1\nv2 = v3 + 3 2\nend\n", []string{"3 + v3", "v3 + 3"}, []exprRow{{"3 + v3", "100", "111"}, {"v3 + 3", "010", "111"}}},
		{"v2 = 3 * 4 1\nv2 = 4 * 3 2\nend\n", []string{"3 * 4", "4 * 3"}, []exprRow{{"3 * 4", "100", "111"}, {"4 * 3", "010", "111"}}},
		// Operands that are the same.
		{"v0 = v1 + v1 1\nv2 = v1 + v1 2\nv1 = in 3\nend\n", []string{"v1 + v1"}, []exprRow{{"v1 + v1", "1100", "1101"}, {"v0 + v0", "0000", "0111"}}},
		{"v0 = 7 - 7 1\nv7 = 7 - 7 2\nend\n", []string{"7 - 7"}, []exprRow{{"7 - 7", "110", "111"}, {"v7 - v7", "000", "101"}}},
		// Numbers and variables with the same digits; those of 0 have the same Num.
		{"v9 = v0 + 1 1\nv9 = 0 + 1 2\nv9 = v0 + v1 3\nv9 = 0 + v1 4\nv0 = in 5\nv1 = in 6\nend\n", []string{"v0 + 1", "0 + 1", "v0 + v1", "0 + v1"}, []exprRow{
			{"v0 + 1", "1000000", "1111011"},
			{"0 + 1", "0100000", "1111111"},
			{"v0 + v1", "0010000", "1111001"},
			{"0 + v1", "0001000", "1111101"},
		}},
		{"v1 = v11 - 11 1\nv11 = 11 - v11 2\nv10 = v11 - v11 3\nv1 = 11 - 11 4\nend\n", []string{"v11 - 11", "11 - v11", "v11 - v11", "11 - 11"}, []exprRow{
			{"v11 - 11", "10000", "10111"},
			{"11 - v11", "01000", "10111"},
			{"v11 - v11", "00100", "10111"},
			{"11 - 11", "00010", "11111"},
			{"v1 - 11", "00000", "01101"},
		}},
		// A step that changes its own operand reckons it all the same.
		{"v0 = v0 + 1 0\n", []string{"v0 + 1"}, []exprRow{{"v0 + 1", "1", "0"}}},
		{"v5 = 1 - v5 1\nv5 = v5 * v5 0\n", []string{"1 - v5", "v5 * v5"}, []exprRow{{"1 - v5", "10", "00"}, {"v5 * v5", "01", "00"}}},
		// Steps of each kind that changes, on either side; a copy that is of the operand, and one to it.
		{"v3 = in 1\nv4 = in 2\nv3 = v4 3\nv4 = v3 4\nv3 = 1 - 2 5\nv4 = 1 - 2 6\nv5 = v3 7\nend\n", []string{"1 - 2"}, []exprRow{
			{"v3 < v4", "00000000", "00000011"},
			{"v3 < 4", "00000000", "01010111"},
			{"3 < v4", "00000000", "10101011"},
			{"v4 < v5", "00000000", "10101001"},
			{"3 < 4", "00000000", "11111111"},
		}},
		// Steps that change nothing have 0 as Dst, but they keep the variable 0.
		{"out v0 1\ntest v0 2 3\nskip 3\nend\n", nil, []exprRow{{"v0 + v0", "0000", "1111"}, {"v0 - 1", "0000", "1111"}, {"1 * v0", "0000", "1111"}}},
		// Steps that cannot be come to.
		{"end\nv1 = v1 + v2 2\nv2 = v1 + v2 1\nv3 = in 0\n", []string{"v1 + v2"}, []exprRow{{"v1 + v2", "0110", "1001"}, {"v3 + v3", "0000", "1110"}}},
		{"v1 = v2 + v3 2\nv1 = v3 + v2 2\nv2 = v3 + v2 3\nend\n", []string{"v2 + v3", "v3 + v2"}, []exprRow{{"v2 + v3", "1000", "1101"}, {"v3 + v2", "0110", "1101"}}},
		// Nothing is reckoned.
		{"end\n", nil, []exprRow{{"0 + 0", "0", "1"}, {"v0 + v0", "0", "1"}}},
		{"skip 0\n", nil, []exprRow{{"v0 < 65535", "0", "1"}}},
		{"v0 = in 1\nv1 = v0 2\nv1 = 5 3\nout v1 4\nend\n", nil, []exprRow{{"v0 + v1", "00000", "00011"}, {"v1 + 5", "00000", "10011"}}},
		// The first and the last variable, and the greatest number.
		{"v11 = v0 * v11 1\nv0 = 65535 * v11 2\nv1 = 65535 * 65535 3\nend\n", []string{"v0 * v11", "65535 * v11", "65535 * 65535"}, []exprRow{
			{"v0 * v11", "1000", "0011"},
			{"65535 * v11", "0100", "0111"},
			{"65535 * 65535", "0010", "1111"},
			{"v0 * 65535", "0000", "1011"},
		}},
	} {
		checkList(t, told(t, c.text), c.list)
		checkRows(t, c.text, c.rows)
	}
}

// differing is a program of so many steps that all reckon something else: the first by the operation, the others by one operand.
func differing(size int) impl.Prog {
	var p impl.Prog
	for at := range size {
		s := impl.Step{Kind: impl.StepSet, Dst: at % impl.ProgVars, Op: impl.OpAdd, A: variable(0), B: variable(1), Next: []int{(at + 1) % size}}
		switch {
		case at < 4:
			s.Op = impl.OpAdd + at
		case at < 14:
			s.B = variable(at - 2)
		case at < 24:
			s.A = variable(at - 12)
		case at < 42:
			s.B = num(at)
		default:
			s.A = num(impl.ProgNum - at)
		}
		p.Steps = append(p.Steps, s)
	}
	return p
}

func TestAsManyReckoningsAsSteps(t *testing.T) {
	for size := 1; size <= impl.ProgMax; size++ {
		p := differing(size)
		list := impl.ExprList(p)
		if len(list) != size {
			t.Fatalf("%d steps reckon %d: %q", size, len(list), exprsSaid(list))
		}
		for at, e := range list {
			if want, _ := exprOf(p.Steps[at]); e != want {
				t.Fatalf("%d steps: the reckoning %d is %s", size, at, exprSaid(e))
			}
			for other, yes := range impl.ExprComp(p, e) {
				if yes != (other == at) {
					t.Fatalf("%d steps: %s of step %d is told of %d: %v", size, exprSaid(e), at, other, yes)
				}
			}
			if got := impl.ExprKeeps(p, e); !slices.Equal(got, keepsByWords(p, e)) {
				t.Fatalf("%d steps: %s is kept by %s", size, exprSaid(e), row(got))
			}
		}
	}
}

func TestAllStepsReckonTheSame(t *testing.T) {
	for size := 1; size <= impl.ProgMax; size++ {
		p := longest()
		p.Steps = p.Steps[:size]
		for at := range p.Steps {
			p.Steps[at].Next[0] = size - 1
		}
		yes := slices.Repeat([]bool{true}, size)
		list := impl.ExprList(p)
		if len(list) != 1 || exprSaid(list[0]) != "65535 < 65535" {
			t.Fatalf("%d steps: %v", size, list)
		}
		if !slices.Equal(impl.ExprComp(p, list[0]), yes) || !slices.Equal(impl.ExprKeeps(p, list[0]), yes) {
			t.Fatalf("%d steps: not all", size)
		}
		if keeps := impl.ExprKeeps(p, exprTold(t, "v11 < 65535")); len(keeps) != size || slices.Contains(keeps, true) {
			t.Fatalf("%d steps: who changes v11 keeps it: %s", size, row(keeps))
		}
	}
}

func TestWhichReckoningsAreOk(t *testing.T) {
	opnds := append(noOpnds(), num(0), num(1), num(impl.ProgNum-1), variable(0), variable(1), variable(impl.ProgVars-1))
	ops := append(noOps(), impl.OpAdd, impl.OpSub, impl.OpMul, impl.OpLess)
	fine := 0
	for _, op := range ops {
		for _, a := range opnds {
			for _, b := range opnds {
				e := impl.Expr{Op: op, A: a, B: b}
				if impl.ExprOk(e) != exprOkByTable(e) {
					t.Fatalf("%v is ok: %v", e, impl.ExprOk(e))
				}
				if impl.ExprOk(e) {
					fine++
				}
			}
		}
	}
	if fine != 4*6*6 {
		t.Errorf("%d are ok", fine)
	}
	for _, e := range wrongExprs() {
		if impl.ExprOk(e) {
			t.Errorf("%v is ok", e)
		}
	}
}

// Each operand that there is, and no other about its bounds.
func TestWhichOperandsAReckoningHas(t *testing.T) {
	for v := -20; v <= 80; v++ {
		for n := -20; n <= 80; n++ {
			o := impl.Opnd{Var: v, Num: n}
			want := opndByTable(true, o)
			if impl.ExprOk(impl.Expr{Op: impl.OpSub, A: o, B: num(3)}) != want || impl.ExprOk(impl.Expr{Op: impl.OpSub, A: variable(3), B: o}) != want {
				t.Fatalf("%v is an operand: %v", o, !want)
			}
		}
	}
	for n := -3; n <= impl.ProgNum+3; n++ {
		if want := n >= 0 && n <= 65535; impl.ExprOk(impl.Expr{Op: impl.OpMul, A: num(n), B: num(n)}) != want {
			t.Fatalf("%d is a number: %v", n, !want)
		}
	}
}

func TestNothingOfAReckoningThatIsNotOk(t *testing.T) {
	d := &dice{state: 53}
	progs := []impl.Prog{told(t, "end\n"), told(t, reckonsText), told(t, everyText), differing(impl.ProgMax), d.alike(9)}
	for _, p := range progs {
		for _, e := range wrongExprs() {
			if comp, keeps := impl.ExprComp(p, e), impl.ExprKeeps(p, e); len(comp) != 0 || len(keeps) != 0 {
				t.Fatalf("%v: %v is reckoned by %s, kept by %s", p, e, row(comp), row(keeps))
			}
		}
	}
}

func TestNothingOfReckoningsOfAProgramThatIsNotOk(t *testing.T) {
	exprs := []impl.Expr{{Op: impl.OpAdd}, {Op: impl.OpAdd, A: variable(0), B: variable(1)}, {Op: impl.OpLess, A: num(1), B: num(2)}, {Op: 9}}
	for _, p := range wrongReckoners() {
		if okByTable(p) {
			t.Fatalf("%v is ok", p)
		}
		if list := impl.ExprList(p); len(list) != 0 {
			t.Fatalf("%v: %v", p, list)
		}
		for _, e := range exprs {
			if comp, keeps := impl.ExprComp(p, e), impl.ExprKeeps(p, e); len(comp) != 0 || len(keeps) != 0 {
				t.Fatalf("%v: %v is reckoned by %s, kept by %s", p, e, row(comp), row(keeps))
			}
		}
	}
}
