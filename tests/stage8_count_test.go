package tests

import (
	"slices"
	"strconv"
	"strings"
	"testing"

	"loop.example/causey/impl"
)

// namedCase is a program, a reckoning, a path, and by hand how often it is reckoned there, if nothing is moved, as early as can be, as late as can be, and at all latest places.
type namedCase struct {
	text string
	said string
	path string
	want string
}

func (c namedCase) check(t *testing.T) {
	t.Helper()
	p, e, path := told(t, c.text), exprTold(t, c.said), pathTold(t, c.path)
	s := sceneOf(p, e)
	var counts, own []string
	for i, x := range []impl.Place{impl.PlaceNone(p, e), impl.PlaceBusy(p, e), impl.PlaceLazy(p, e), s.latest()} {
		count := impl.PathCount(p, e, x, path)
		counts = append(counts, strconv.Itoa(count))
		own = append(own, strconv.Itoa(s.countByWords(x, path)))
		if best := impl.PathBest(p, e, path); i == 1 && best != count {
			t.Errorf("%q, %s, %s: at least %d", c.text, c.said, c.path, best)
		}
	}
	if got := strings.Join(counts, " "); got != c.want {
		t.Errorf("%q, %s, %s: %s, not %s", c.text, c.said, c.path, got, c.want)
	}
	if got := strings.Join(own, " "); got != c.want {
		t.Errorf("%q, %s, %s: by words %s", c.text, c.said, c.path, got)
	}
}

const (
	// On one of two ways it is reckoned, and again where they meet.
	meetText = "test v2 1 2\nv3 = v0 + v1 7\nskip 3\nv4 = v0 + v1 4\nout v3 5\nout v4 6\nend\nskip 3\n"
	// A tidy loop that is done once at least, and reckons the same each time; so does a step behind it.
	againText = "v9 = in 7\nv2 = v0 + v1 2\nv9 = v9 - 1 3\ntest v9 8 4\nout v2 5\nv3 = v0 + v1 6\nend\nskip 1\nskip 1\n"
	// A tidy loop in which it is reckoned, and an operand changes behind that.
	freshText = "skip 1\nv2 = v0 + v1 2\nv0 = v2 3\ntest v2 4 5\nskip 1\nend\n"
)

func TestCountsOfNamedWaysByHand(t *testing.T) {
	for _, c := range []namedCase{
		{meetText, "v0 + v1", "0 1 7 3 4 5 6", "2 1 1 1"},
		{meetText, "v0 + v1", "0 2 3 4 5 6", "1 1 1 1"},
		{againText, "v0 + v1", "0 7 1 2 3 4 5 6", "2 1 1 1"},
		{againText, "v0 + v1", "0 7 1 2 3 8 1 2 3 4 5 6", "3 1 1 1"},
		{againText, "v0 + v1", "0 7 1 2 3 8 1 2 3 8 1 2 3 8 1 2 3 4 5 6", "5 1 1 1"},
		{againText, "v9 - 1", "0 7 1 2 3 8 1 2 3 8 1 2 3 4 5 6", "3 3 3 3"},
		{freshText, "v0 + v1", "0 1 2 3 5", "1 1 1 1"},
		{freshText, "v0 + v1", "0 1 2 3 4 1 2 3 4 1 2 3 5", "3 3 3 3"},
		// Twice on a row of ways.
		{"v2 = v0 + v1 1\nv3 = v0 + v1 2\nend\n", "v0 + v1", "0 1 2", "2 1 1 1"},
		{"v2 = v0 + v1 1\nv1 = in 2\nv3 = v0 + v1 3\nend\n", "v0 + v1", "0 1 2 3", "2 2 2 2"},
		// Turned about it is another one.
		{"v2 = v0 + v1 1\nv3 = v1 + v0 2\nend\n", "v0 + v1", "0 1 2", "1 1 1 1"},
		{"v2 = v0 + v1 1\nv3 = v1 + v0 2\nend\n", "v1 + v0", "0 1 2", "1 1 1 1"},
		{"v2 = v0 + v1 1\nv3 = v1 + v0 2\nend\n", "v0 - v1", "0 1 2", "0 0 0 0"},
		// Nobody reckons it, or nobody on this path.
		{"end\n", "v0 + v1", "0", "0 0 0 0"},
		{"skip 1\ntest v2 2 3\nskip 3\nend\n", "3 + 4", "0 1 3", "0 0 0 0"},
		{"test v2 1 2\nv3 = v0 + v1 2\nend\n", "v0 + v1", "0 2", "0 0 0 0"},
		{"test v2 1 2\nv3 = v0 + v1 2\nend\n", "v0 + v1", "0 1 2", "1 1 1 1"},
		// A choice whose both ways are one.
		{"test v0 1 1\nv2 = v0 + v1 2\nv3 = v0 + v1 3\nend\n", "v0 + v1", "0 1 2 3", "2 1 1 1"},
		// A way back to the first step: it is put there each time.
		{"v2 = v0 + v1 1\ntest v2 0 2\nend\n", "v0 + v1", "0 1 0 1 0 1 2", "3 3 3 3"},
		{"v2 = v0 + v1 1\nv3 = v0 + v1 2\ntest v3 0 3\nend\n", "v0 + v1", "0 1 2 0 1 2 3", "4 2 2 2"},
		// Numbers alone.
		{"v2 = 3 + 4 1\nv2 = in 2\nv0 = 3 + 4 3\nend\n", "3 + 4", "0 1 2 3", "2 1 1 1"},
		// Rows of numbers that are no path.
		{meetText, "v0 + v1", "", "-1 -1 -1 -1"},
		{meetText, "v0 + v1", "0 1 7 3 4 5", "-1 -1 -1 -1"},
		{meetText, "v0 + v1", "0 1 3 4 5 6", "-1 -1 -1 -1"},
		{meetText, "v0 + v1", "2 3 4 5 6", "-1 -1 -1 -1"},
		{meetText, "v0 + v1", "0 2 3 4 5 6 6", "-1 -1 -1 -1"},
		{"end\n", "v0 + v1", "0 0", "-1 -1 -1 -1"},
		{"skip 0\n", "v0 + v1", "0", "-1 -1 -1 -1"},
		{"v2 = v0 + v1 0\n", "v0 + v1", "0 0 0", "-1 -1 -1 -1"},
	} {
		if strings.HasPrefix(c.want, "-1") {
			c.checkNone(t)
			continue
		}
		c.check(t)
	}
}

// checkNone: nothing is counted on what is no path.
func (c namedCase) checkNone(t *testing.T) {
	t.Helper()
	checkUncounted(t, told(t, c.text), exprTold(t, c.said), pathTold(t, c.path))
}

// checkUncounted: nothing is counted, whichever way it is moved.
func checkUncounted(t *testing.T, p impl.Prog, e impl.Expr, path []int) {
	t.Helper()
	size := len(p.Steps)
	yes := slices.Repeat([]bool{true}, size)
	list := []impl.Place{impl.PlaceNone(p, e), impl.PlaceBusy(p, e), impl.PlaceLazy(p, e), {Puts: make([]bool, size), Takes: make([]bool, size)}, {Puts: yes, Takes: make([]bool, size)}, {Puts: yes, Takes: slices.Clone(yes)}}
	for _, x := range list {
		if got := impl.PathCount(p, e, x, path); got != -1 {
			t.Fatalf("%v, %v: %s, %v: %d", p, e, placeRows(x), path, got)
		}
	}
	if got := impl.PathBest(p, e, path); got != -1 {
		t.Fatalf("%v, %v: %v: at least %d", p, e, path, got)
	}
}

func TestCountsOfAnyWayByHand(t *testing.T) {
	for _, c := range []struct {
		text string
		path string
		ways string // puts, takes and the count, with commas between
	}{
		// A step where it is put that reckons it, too, reckons it twice.
		{"v2 = v0 + v1 1\nskip 2\nv3 = v0 + v1 3\nend\n", "0 1 2 3", "0000 0000 2, 1000 0000 3, 1000 1000 2, 1000 1010 1, 1000 0010 2, 0000 1000 1, 0000 1010 0, 1111 0000 6, 1111 1010 4, 0101 0000 4, 0001 1010 1"},
		// Takes of steps that do not reckon it do not matter, nor whether the way is admissible.
		{"v2 = v0 + v1 1\nskip 2\nv3 = v0 + v1 3\nend\n", "0 1 2 3", "0000 0101 2, 0000 1111 0, 1111 1111 4, 0100 1111 1, 0010 1000 2"},
		{"v2 = v0 + v1 1\nv0 = in 2\nv3 = v0 + v1 3\nend\n", "0 1 2 3", "1000 1010 1, 0000 1010 0, 0100 0010 2, 0001 0000 3"},
		// Steps that the path comes to twice, or never.
		{"skip 1\nv2 = v0 + v1 2\ntest v2 1 3\nend\n", "0 1 2 1 2 1 2 3", "0000 0000 3, 1000 0100 1, 0100 0100 3, 0100 0000 6, 0010 0000 6, 0001 0000 4, 1111 0000 11, 1111 1111 8, 1001 0110 2"},
		{"test v2 1 2\nv3 = v0 + v1 3\nv3 = v0 + v1 3\nend\n", "0 2 3", "0000 0000 1, 0100 0000 1, 0000 0100 1, 0010 0000 2, 0000 0010 0, 0110 0110 1, 1000 0110 1, 1101 0010 2"},
		// An end alone.
		{"end\n", "0", "0 0 0, 1 0 1, 0 1 0, 1 1 1"},
		// The first step, come to again.
		{"v2 = v0 + v1 1\ntest v2 0 2\nend\n", "0 1 0 1 2", "000 000 2, 100 000 4, 100 100 2, 010 100 2, 001 100 1, 111 111 5"},
	} {
		p, e, path := told(t, c.text), exprTold(t, "v0 + v1"), pathTold(t, c.path)
		s := sceneOf(p, e)
		for _, way := range strings.Split(c.ways, ", ") {
			cut := strings.LastIndex(way, " ")
			x, want := placeTold(t, way[:cut], len(p.Steps)), numByForm(way[cut+1:])
			if got, own := impl.PathCount(p, e, x, path), s.countByWords(x, path); got != want || own != want {
				t.Errorf("%q, %s, %s: %d, by words %d", c.text, c.path, way, got, own)
			}
		}
	}
}

// The longest path, as often reckoned as can be: twice a step, but at the end.
func TestTheGreatestCount(t *testing.T) {
	p, e := told(t, "v2 = v0 + v1 1\nv3 = v0 + v1 2\ntest v2 3 0\nend\n"), exprTold(t, "v0 + v1")
	path, ok := impl.PathOf(p, slices.Repeat([]bool{true}, 65))
	if !ok || len(path) != 199 {
		t.Fatal(ok, path)
	}
	x := impl.Place{Puts: []bool{true, true, true, true}, Takes: make([]bool, 4)}
	if got := impl.PathCount(p, e, x, path); got != 199+132 || impl.PathBest(p, e, path) != 66 {
		t.Errorf("%d, at least %d", got, impl.PathBest(p, e, path))
	}
}

// waysToCount are ways of moving to count by: those with names, some that are admissible, and any with the form.
func (d *dice) waysToCount(s scene) []impl.Place {
	list := []impl.Place{s.none(), s.busy(), s.lazy(), s.latest(), s.allSafe()}
	for range 2 {
		list = append(list, d.hereAndThere(s), d.anyPlace(s))
	}
	wild := s.none()
	for at := range wild.Puts {
		wild.Puts[at], wild.Takes[at] = d.roll(2) == 0, d.roll(2) == 0
	}
	return append(list, wild)
}

func TestCountsAgainstWords(t *testing.T) {
	d := &dice{state: 95}
	counts := map[int]int{}
	manyPaths(func(s scene, paths [][]int) {
		list := d.waysToCount(s)
		for _, path := range paths {
			for _, x := range list {
				got, want := impl.PathCount(s.p, s.e, x, path), s.countByWords(x, path)
				if got != want {
					t.Fatalf("%q, %s: %s, %v: %d, not %d", impl.ProgWrite(s.p), exprSaid(s.e), placeRows(x), path, got, want)
				}
				counts[min(got, 10)]++
			}
			if got, want := impl.PathBest(s.p, s.e, path), s.countByWords(s.busy(), path); got != want {
				t.Fatalf("%q, %s: %v: at least %d, not %d", impl.ProgWrite(s.p), exprSaid(s.e), path, got, want)
			}
		}
	})
	for count := range 11 {
		if counts[count] < 500 {
			t.Errorf("only %d are counted %d", counts[count], count)
		}
	}
}

// Where a path is none, nothing is counted, whichever step is wrong.
func TestCountsOfWhatIsNoPath(t *testing.T) {
	d := &dice{state: 96}
	tried := 0
	runMovers(1, impl.ProgMax, 2, func(p impl.Prog, e impl.Expr) {
		path := d.wander(p, d.roll(100))
		if path == nil {
			checkUncounted(t, p, e, []int{0})
			return
		}
		for _, other := range append(d.nearlyPaths(p, path), nil) {
			if isPathByNodes(p, other) {
				continue
			}
			tried++
			checkUncounted(t, p, e, other)
		}
	})
	if tried < 1000 {
		t.Errorf("only %d", tried)
	}
}

func TestCountsOfWaysWithoutTheForm(t *testing.T) {
	d := &dice{state: 97}
	progs := []impl.Prog{told(t, "end\n"), told(t, "v2 = v0 + v1 1\nend\n"), told(t, againText), chained(strings.Repeat("r", 59))}
	for size := 2; size < impl.ProgMax; size += 7 {
		progs = append(progs, d.runMover(size, movables()[0]))
	}
	for _, p := range progs {
		path := d.wander(p, 20)
		if path == nil {
			continue
		}
		for _, e := range movables() {
			if impl.PathCount(p, e, impl.PlaceNone(p, e), path) < 0 {
				t.Fatalf("%q: %v: no count", impl.ProgWrite(p), path)
			}
			for _, x := range formless(len(p.Steps)) {
				if got := impl.PathCount(p, e, x, path); got != -1 {
					t.Fatalf("%q, %s: %s, %v: %d", impl.ProgWrite(p), exprSaid(e), placeRows(x), path, got)
				}
			}
		}
	}
}

// A reckoning that is not ok is not counted, and does not matter to what a path is.
func TestNoCountsOfAReckoningThatIsNotOk(t *testing.T) {
	for _, text := range []string{"end\n", "v2 = v0 + v1 1\nend\n", reckonsText} {
		p := told(t, text)
		path, ok := impl.PathOf(p, nil)
		if !ok || !impl.PathOk(p, path) {
			t.Fatalf("%q: %v", text, path)
		}
		for _, e := range wrongExprs() {
			checkUncounted(t, p, e, path)
		}
	}
}

func TestNoPathsInAProgramThatIsNotOk(t *testing.T) {
	for _, p := range append(wrongReckoners(), impl.Prog{}) {
		for _, choices := range [][]bool{nil, {false}, {true, false, true}} {
			if path, ok := impl.PathOf(p, choices); ok || len(path) != 0 {
				t.Fatalf("%v: %v %v", p, ok, path)
			}
		}
		for _, path := range [][]int{nil, {0}, {0, 2}, {0, 1, 2}, {len(p.Steps) - 1}, {-1}} {
			if impl.PathOk(p, path) {
				t.Fatalf("%v: %v", p, path)
			}
			for _, e := range append(movables(), impl.Expr{}) {
				checkUncounted(t, p, e, path)
			}
		}
	}
}

// The paths of the tests have what the document names, else the other tests tell little.
func TestManyPathsHaveAllThereIs(t *testing.T) {
	counts := map[string]int{}
	manyPaths(func(s scene, paths [][]int) {
		if len(paths) > 4 {
			counts["more than 4 paths"]++
		}
		for _, path := range paths {
			countPath(s, path, counts)
		}
	})
	tidyPaths(func(s scene, paths [][]int) {
		for _, path := range paths {
			none := s.countByWords(s.none(), path)
			if none > s.countByWords(s.lazy(), path) {
				counts["as late as can be is less, tidy"]++
			}
			if s.countByWords(s.allSafe(), path) > none {
				counts["wherever it is safe is more, tidy"]++
			}
		}
	})
	for _, name := range []string{
		"one step", "longer than the program", "more than 150 steps", "a step twice", "a step ten times", "the first step again", "a step whose way leads to itself",
		"a choice whose both ways are one", "reckoned by a step twice", "reckoned by several steps", "an operand changes between", "not reckoned",
		"as early as can be is less than as late", "as early as can be is more than as late", "as late as can be is less, tidy", "wherever it is safe is more, tidy", "more than 4 paths",
	} {
		if counts[name] < 50 {
			t.Errorf("%s: only %d", name, counts[name])
		}
	}
}

func countPath(s scene, path []int, counts map[string]int) {
	times, reckoners := map[int]int{}, map[int]bool{}
	self, one, changed, reckoned := false, false, false, 0
	for i, at := range path {
		times[at]++
		next := s.behind(at)
		self = self || i > 0 && path[i-1] == at
		one = one || len(next) == 2 && next[0] == next[1]
		if s.reckons[at] {
			reckoners[at] = true
			reckoned++
		}
		changed = changed || reckoned > 0 && !s.keeps[at] && slices.ContainsFunc(path[i+1:], func(at int) bool { return s.reckons[at] })
	}
	most := 0
	for _, count := range times {
		most = max(most, count)
	}
	busy, lazy := s.countByWords(s.busy(), path), s.countByWords(s.lazy(), path)
	for name, is := range map[string]bool{
		"one step":                                len(path) == 1,
		"longer than the program":                 len(path) > len(s.reach),
		"more than 150 steps":                     len(path) > 150,
		"a step twice":                            most > 1,
		"a step ten times":                        most > 9,
		"the first step again":                    times[0] > 1,
		"a step whose way leads to itself":        self,
		"a choice whose both ways are one":        one,
		"reckoned by a step twice":                reckoned > len(reckoners),
		"reckoned by several steps":               len(reckoners) > 1,
		"an operand changes between":              changed,
		"not reckoned":                            reckoned == 0,
		"as early as can be is less than as late": busy < lazy,
		"as early as can be is more than as late": busy > lazy,
	} {
		if is {
			counts[name]++
		}
	}
}
