package tests

import (
	"slices"
	"testing"

	"loop.example/causey/impl"
)

// safeCase is a program, a reckoning, and by hand where it is safe: the six rows in the order of the document, with a blank between.
type safeCase struct {
	text string
	said string
	rows string
}

func checkSafe(t *testing.T, c safeCase) {
	t.Helper()
	p, e := told(t, c.text), exprTold(t, c.said)
	if got := rows(safeOf(p, e).rows()); got != c.rows {
		t.Errorf("%q, %s:\n%s, not\n%s", c.text, c.said, got, c.rows)
	}
	// What is by hand holds for the tests' own means, too.
	if want := rows(safeByWays(p, e).rows()); want != c.rows {
		t.Errorf("%q, %s: by ways %s", c.text, c.said, want)
	}
}

func TestWhereItIsSafeByHand(t *testing.T) {
	for _, c := range []safeCase{
		// In a loop that may be left at once it is reckoned no sooner than there.
		{"v9 = in 1\ntest v9 2 5\nv2 = v0 + v1 3\nout v2 4\nv9 = in 1\nend\n", "v0 + v1", "001000 000110 001000 001000 001000 111111"},
		// In a loop that is done once at least it is reckoned ahead of it; the last step takes it, too.
		{"v9 = in 1\nv2 = v0 + v1 2\nv9 = v9 - 1 3\ntest v9 1 4\nout v2 5\nv3 = v0 + v1 6\nend\n", "v0 + v1", "1111110 0011111 1000000 1000000 1000000 0000011"},
		// The same, tidy: it is put off as far as the skip ahead of the loop.
		{"v9 = in 7\nv2 = v0 + v1 2\nv9 = v9 - 1 3\ntest v9 8 4\nout v2 5\nv3 = v0 + v1 6\nend\nskip 1\nskip 1\n", "v0 + v1", "111111011 001111101 100000000 100000010 000000010 100001100"},
		// An operand changes between two steps that reckon it.
		{"v2 = v0 + v1 1\nv1 = in 2\nv3 = v0 + v1 3\nend\n", "v0 + v1", "1010 0101 1010 1010 1010 1111"},
		// It is reckoned twice on a row of ways.
		{"skip 1\nv2 = v0 - v1 2\nskip 3\nv3 = v0 - v1 4\nend\n", "v0 - v1", "11110 00111 10000 11000 01000 10011"},
		// On one of two ways an operand changes, on the other it is reckoned; they meet where it is reckoned.
		{"test v4 1 2\nv0 = in 3\nv2 = v0 * v1 4\nskip 5\nskip 5\nv3 = v0 * v1 6\nend\n", "v0 * v1", "0011110 0000101 0011000 0011000 0011000 1100011"},
		// It was reckoned ahead of the choice, though not all ways on need it: there is no earliest place behind.
		{"v2 = v0 + v1 1\ntest v4 2 4\nv3 = v0 + v1 3\nend\nend\n", "v0 + v1", "10100 01111 10000 10000 10000 00111"},
		// On one of two ways it is never needed.
		{"test v4 1 2\nv2 = v0 < 3 3\nout v0 3\nend\n", "v0 < 3", "0100 0000 0100 0100 0100 1111"},
	} {
		checkSafe(t, c)
	}
}

func TestWhereItIsSafeInATidiedProgram(t *testing.T) {
	p := told(t, "v9 = in 1\nv2 = v0 + v1 2\nv9 = v9 - 1 3\ntest v9 1 4\nout v2 5\nv3 = v0 + v1 6\nend\n")
	q, ok := impl.FlowTidy(p)
	if !ok {
		t.Fatal("not tidied")
	}
	if got := rows(safeOf(q, exprTold(t, "v0 + v1")).rows()); got != "111111011 001111101 100000000 100000010 000000010 100001100" {
		t.Error(got)
	}
}

// Of small programs all sets of steps are tried.
func TestWhereItIsSafeAgainstAllSets(t *testing.T) {
	check := func(p impl.Prog, e impl.Expr) {
		if len(p.Steps) > 7 {
			return
		}
		want := matterOf(p, e).safeBy(bySets)
		if got := safeOf(p, e); !sameSafe(got, want) {
			t.Fatalf("%q, %s:\n%s, not\n%s", impl.ProgWrite(p), exprSaid(e), rows(got.rows()), rows(want.rows()))
		}
		if ways := safeByWays(p, e); !sameSafe(ways, want) {
			t.Fatalf("%q, %s: by ways\n%s, not\n%s", impl.ProgWrite(p), exprSaid(e), rows(ways.rows()), rows(want.rows()))
		}
	}
	smallMovers(check)
	greatMovers(3, 7, 40, check)
}

func TestWhereItIsSafeAgainstWays(t *testing.T) {
	manyMovers(func(p impl.Prog, e impl.Expr) {
		if got, want := safeOf(p, e), safeByWays(p, e); !sameSafe(got, want) {
			t.Fatalf("%q, %s:\n%s, not\n%s", impl.ProgWrite(p), exprSaid(e), rows(got.rows()), rows(want.rows()))
		}
	})
}

// The programs of reckonings, with all that is asked of them.
func TestWhereItIsSafeOfManyReckonings(t *testing.T) {
	d := &dice{state: 62}
	for size := 1; size <= impl.ProgMax; size++ {
		for _, p := range []impl.Prog{d.alike(size), d.runner(size), d.strewn(d.alike(size))} {
			list := asked(p)
			for range 12 {
				bothTidy(p, list[d.roll(len(list))], func(p impl.Prog, e impl.Expr) {
					if got, want := safeOf(p, e), safeByWays(p, e); !sameSafe(got, want) {
						t.Fatalf("%q, %s:\n%s, not\n%s", impl.ProgWrite(p), exprSaid(e), rows(got.rows()), rows(want.rows()))
					}
				})
			}
		}
	}
}

// placed is a row as it is when steps stand elsewhere.
func placed(list []bool, to []int) []bool {
	there := make([]bool, len(list))
	for at, yes := range list {
		there[to[at]] = yes
	}
	return there
}

// Where it is safe does not hang on the places at which steps stand.
func TestWhereItIsSafeInShuffledSteps(t *testing.T) {
	d := &dice{state: 63}
	greatMovers(2, impl.ProgMax, 2, func(p impl.Prog, e impl.Expr) {
		q, to := d.shuffled(p)
		got, before := safeOf(q, e).rows(), safeOf(p, e).rows()
		for i := range got {
			if want := placed(before[i], to); !slices.Equal(got[i], want) {
				t.Fatalf("%q, %s: row %d: %s, not %s", impl.ProgWrite(q), exprSaid(e), i, row(got[i]), row(want))
			}
		}
	})
}

// The programs of the tests have what the document names, else the other tests tell little.
func TestManyMoversHaveAllThereIs(t *testing.T) {
	counts := map[string]int{}
	manyMovers(func(p impl.Prog, e impl.Expr) {
		m := matterOf(p, e)
		countSafe(m, safeByWays(p, e), counts)
		countSteps(m, counts)
	})
	for _, name := range []string{
		"fewer fit, too: down", "fewer fit, too: up", "fewer fit, too: delay", "fewer fit, too: alone",
		"late, not early", "early, not late", "late alone", "late, not alone", "put off to some behind", "up, not down", "both down and up", "neither down nor up",
		"it changes its operand", "a way to itself", "both ways are one", "from what cannot be come to", "back to the first", "numbers alone", "nobody reckons it", "several reckon it", "of the greatest size", "of one step",
	} {
		if counts[name] < 50 {
			t.Errorf("%s: only %d", name, counts[name])
		}
	}
}

func countSafe(m matter, s safeTold, counts map[string]int) {
	few := m.safeBy(least)
	for i, name := range []string{"down", "up"} {
		if !slices.Equal(few.rows()[i], s.rows()[i]) {
			counts["fewer fit, too: "+name]++
		}
	}
	if !slices.Equal(s.delay, least(m, func(at int, so []bool) bool { return m.saidDelay(at, s.early, so) })) {
		counts["fewer fit, too: delay"]++
	}
	if !slices.Equal(s.alone, least(m, func(at int, so []bool) bool { return m.saidAlone(at, s.late, so) })) {
		counts["fewer fit, too: alone"]++
	}
	for at, can := range m.reach {
		for name, is := range map[string]bool{
			"late, not early":        s.late[at] && !s.early[at],
			"early, not late":        s.early[at] && !s.late[at],
			"late alone":             s.late[at] && s.alone[at],
			"late, not alone":        s.late[at] && !s.alone[at],
			"put off to some behind": s.late[at] && someOf(m.behind(at), func(next int) bool { return s.delay[next] }),
			"up, not down":           s.up[at] && !s.down[at],
			"both down and up":       s.up[at] && s.down[at],
			"neither down nor up":    can && !s.up[at] && !s.down[at],
		} {
			if is {
				counts[name]++
			}
		}
	}
}

func countSteps(m matter, counts map[string]int) {
	for at, can := range m.reach {
		next := m.behind(at)
		for name, is := range map[string]bool{
			"it changes its operand":      can && m.reckons[at] && !m.keeps[at],
			"a way to itself":             can && slices.Contains(next, at),
			"both ways are one":           can && len(next) == 2 && next[0] == next[1],
			"from what cannot be come to": !can && someOf(next, func(next int) bool { return m.reach[next] }),
			"back to the first":           can && slices.Contains(next, 0),
		} {
			if is {
				counts[name]++
			}
		}
	}
	for name, is := range map[string]bool{
		"numbers alone":        countOf(m.reckons) > 0 && !slices.Contains(m.keeps, false),
		"nobody reckons it":    countOf(m.reckons) == 0,
		"several reckon it":    countOf(m.reckons) > 2,
		"of the greatest size": len(m.reach) == impl.ProgMax,
		"of one step":          len(m.reach) == 1,
	} {
		if is {
			counts[name]++
		}
	}
}
