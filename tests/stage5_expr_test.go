package tests

import (
	"slices"
	"testing"

	"loop.example/causey/impl"
)

// exprRow is a reckoning, and by hand which steps reckon it, and which keep it.
type exprRow struct {
	said  string
	comp  string
	keeps string
}

// exprTold is the reckoning of words.
func exprTold(t *testing.T, said string) impl.Expr {
	t.Helper()
	e, ok := exprOf(told(t, "v0 = "+said+" 0\n").Steps[0])
	if !ok || exprSaid(e) != said {
		t.Fatalf("%q is no reckoning", said)
	}
	return e
}

func checkList(t *testing.T, p impl.Prog, want []string) {
	t.Helper()
	if got := exprsSaid(impl.ExprList(p)); !slices.Equal(got, want) {
		t.Fatalf("%v: the list is %q, not %q", p, got, want)
	}
}

func checkRows(t *testing.T, text string, cases []exprRow) {
	t.Helper()
	p := told(t, text)
	for _, c := range cases {
		e := exprTold(t, c.said)
		if got := row(impl.ExprComp(p, e)); got != c.comp {
			t.Errorf("%q: %s is reckoned by %s, not %s", text, c.said, got, c.comp)
		}
		if got := row(impl.ExprKeeps(p, e)); got != c.keeps {
			t.Errorf("%q: %s is kept by %s, not %s", text, c.said, got, c.keeps)
		}
	}
}

// Several steps reckon the same, others what differs in the operation alone, or in one operand alone.
const reckonsText = "v0 = in 1\nv2 = v0 + v1 2\nv3 = v0 - v1 3\nv4 = v0 + v1 4\nv5 = v0 + v6 5\nv6 = v7 + v1 6\ntest v6 7 8\nv1 = v0 + v1 8\nv2 = v0 + 1 9\nout v2 10\nend\n"

func TestOrdinaryReckonings(t *testing.T) {
	checkList(t, told(t, reckonsText), []string{"v0 + v1", "v0 - v1", "v0 + v6", "v7 + v1", "v0 + 1"})
	checkRows(t, reckonsText, []exprRow{
		{"v0 + v1", "01010001000", "01111110111"},
		{"v0 - v1", "00100000000", "01111110111"},
		{"v0 + v6", "00001000000", "01111011111"},
		{"v7 + v1", "00000100000", "11111110111"},
		{"v0 + 1", "00000000100", "01111111111"},
		// What no step reckons.
		{"v1 + v0", "00000000000", "01111110111"},
		{"v0 * v1", "00000000000", "01111110111"},
		{"v2 < v6", "00000000000", "10111011011"},
		{"v8 - v9", "00000000000", "11111111111"},
		{"0 + 1", "00000000000", "11111111111"},
	})
	checkList(t, told(t, everyText), []string{"v0 + 65535", "0 - v11", "v1 * v1", "10 < 9"})
	checkRows(t, everyText, []exprRow{
		{"v0 + 65535", "0100000000000", "0111111111111"},
		{"0 - v11", "0010000000000", "1011111111111"},
		{"v1 * v1", "0001000000000", "1101111111111"},
		{"10 < 9", "0000100000000", "1111111111111"},
		{"v10 + v4", "0000000000000", "1111100111111"},
	})
}

// The order is that of the first steps that reckon them, not of places behind each other on a way, nor of what they are.
func TestTheOrderOfReckonings(t *testing.T) {
	for _, c := range []struct {
		text string
		list []string
	}{
		{"v0 = v2 < v2 1\nv0 = v1 - v1 2\nv0 = v0 + v0 3\nend\n", []string{"v2 < v2", "v1 - v1", "v0 + v0"}},
		{"v0 = v0 + v0 1\nv0 = v1 - v1 2\nv0 = v2 < v2 3\nend\n", []string{"v0 + v0", "v1 - v1", "v2 < v2"}},
		// By ways the last step comes second.
		{"skip 4\nv0 = 1 + 1 2\nv0 = 3 + 3 3\nend\nv0 = 2 + 2 1\n", []string{"1 + 1", "3 + 3", "2 + 2"}},
		{"v0 = 9 * v0 3\nv0 = 1 * v0 2\nv0 = 9 * v0 0\nv0 = 1 * v0 4\nv0 = 5 * v0 1\n", []string{"9 * v0", "1 * v0", "5 * v0"}},
	} {
		checkList(t, told(t, c.text), c.list)
	}
}

// A program whose steps stand in another order tells its reckonings in that order.
func TestReckoningsWhereStepsStandElsewhere(t *testing.T) {
	d := &dice{state: 52}
	others := 0
	for size := 1; size <= impl.ProgMax; size++ {
		p := d.alike(size)
		q, to := d.shuffled(p)
		list := exprsSaid(impl.ExprList(q))
		checkList(t, q, listByWords(q))
		if !slices.Equal(list, listByWords(p)) {
			others++
		}
		for _, e := range asked(p) {
			comp, keeps := impl.ExprComp(p, e), impl.ExprKeeps(p, e)
			there, keepsThere := impl.ExprComp(q, e), impl.ExprKeeps(q, e)
			for at := range p.Steps {
				if comp[at] != there[to[at]] || keeps[at] != keepsThere[to[at]] {
					t.Fatalf("%v: %s is told otherwise elsewhere: step %d", p, exprSaid(e), at)
				}
			}
		}
	}
	if others < impl.ProgMax/2 {
		t.Errorf("only %d in another order", others)
	}
}

func TestReckoningsAgainstWords(t *testing.T) {
	manyReckoners(func(p impl.Prog) {
		checkList(t, p, listByWords(p))
		for _, e := range asked(p) {
			if got, want := impl.ExprComp(p, e), compByWords(p, e); !slices.Equal(got, want) {
				t.Fatalf("%v: %s is reckoned by %s, not %s", p, exprSaid(e), row(got), row(want))
			}
			if got, want := impl.ExprKeeps(p, e), keepsByWords(p, e); !slices.Equal(got, want) {
				t.Fatalf("%v: %s is kept by %s, not %s", p, exprSaid(e), row(got), row(want))
			}
		}
	})
}

func TestReckoningsOfATidyProgramByHand(t *testing.T) {
	// A way leads to the first step; one step cannot be come to; the step 3 is led to twice.
	p := told(t, "v1 = v1 + v2 1\ntest v1 3 5\nv3 = v2 + v1 0\nv2 = v1 - v2 4\ntest v2 0 3\nend\n")
	q, ok := impl.FlowTidy(p)
	if !ok {
		t.Fatal("not tidied")
	}
	checkList(t, p, []string{"v1 + v2", "v2 + v1", "v1 - v2"})
	checkList(t, q, []string{"v1 - v2", "v1 + v2"})
	checkRows(t, impl.ProgWrite(p), []exprRow{
		{"v1 + v2", "100000", "011011"},
		{"v2 + v1", "001000", "011011"},
		{"v1 - v2", "000100", "011011"},
	})
	// First the skip, then the steps 1, 3, 4 and 5, then the first one, and skips between.
	checkRows(t, impl.ProgWrite(q), []exprRow{
		{"v1 + v2", "000001000", "110110111"},
		{"v2 + v1", "000000000", "110110111"},
		{"v1 - v2", "001000000", "110110111"},
	})
}

// Tidying takes away just what steps reckon that cannot be come to; what it adds reckons nothing, and keeps all.
func TestReckoningsOfTidyPrograms(t *testing.T) {
	lost := 0
	manyReckoners(func(p impl.Prog) {
		q, ok := impl.FlowTidy(p)
		if !ok {
			return
		}
		reach, to := reachWithout(p, -1), placesInTidy(p)
		stay := impl.Prog{}
		for at, s := range p.Steps {
			if reach[at] {
				stay.Steps = append(stay.Steps, s)
			}
		}
		want, got := listByWords(stay), exprsSaid(impl.ExprList(q))
		slices.Sort(want)
		slices.Sort(got)
		if !slices.Equal(got, want) {
			t.Fatalf("%v: %q, not %q", p, got, want)
		}
		if len(got) < len(impl.ExprList(p)) {
			lost++
		}
		for _, e := range impl.ExprList(p) {
			comp, keeps := make([]bool, len(q.Steps)), slices.Repeat([]bool{true}, len(q.Steps))
			before, kept := impl.ExprComp(p, e), impl.ExprKeeps(p, e)
			for at, can := range reach {
				if can {
					comp[to[at]], keeps[to[at]] = before[at], kept[at]
				}
			}
			if !slices.Equal(impl.ExprComp(q, e), comp) || !slices.Equal(impl.ExprKeeps(q, e), keeps) {
				t.Fatalf("%v: %s is told otherwise in %v", p, exprSaid(e), q)
			}
		}
	})
	if lost < 100 {
		t.Errorf("only %d lost a reckoning", lost)
	}
}
