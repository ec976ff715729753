package tests

import (
	"slices"
	"strings"
	"testing"

	"loop.example/causey/impl"
)

// choiceCase is a program, choices, and by hand the path that they make; empty, if they make none.
type choiceCase struct {
	text    string
	choices string
	want    string
}

func (c choiceCase) check(t *testing.T) {
	t.Helper()
	p, choices := told(t, c.text), choicesTold(t, c.choices)
	path, ok := impl.PathOf(p, choices)
	if pathSaid(path) != c.want || ok != (c.want != "") {
		t.Errorf("%q, %s: %v %s", c.text, c.choices, ok, pathSaid(path))
	}
	if own, fine := pathByNodes(p, choices, 200); pathSaid(own) != c.want || fine != ok {
		t.Errorf("%q, %s: by nodes %v %s", c.text, c.choices, fine, pathSaid(own))
	}
}

const (
	// A loop of two choices: out at its head, or back past one of two steps.
	loopText = "skip 1\ntest v1 2 5\ntest v2 3 4\nskip 1\nv1 = in 1\nend\n"
	// Two choices, one behind the other.
	twiceText = "test v0 1 2\nskip 3\nskip 3\ntest v1 4 5\nskip 6\nskip 6\nend\n"
)

func TestPathsByChoicesByHand(t *testing.T) {
	for _, c := range []choiceCase{
		{twiceText, "00", "0 1 3 4 6"},
		{twiceText, "01", "0 1 3 5 6"},
		{twiceText, "10", "0 2 3 4 6"},
		{twiceText, "11", "0 2 3 5 6"},
		// Too few, none, too many.
		{twiceText, "1", "0 2 3 4 6"},
		{twiceText, "", "0 1 3 4 6"},
		{twiceText, "0111", "0 1 3 5 6"},
		{twiceText, "1000000000", "0 2 3 4 6"},
		// Steps that are no choice take none.
		{"v0 = v1 + v2 1\nv0 = v1 2\nv0 = in 3\nout v1 4\nskip 5\ntest v1 6 7\nend\nend\n", "1", "0 1 2 3 4 5 7"},
		{"v0 = v1 + v2 1\nv0 = v1 2\nv0 = in 3\nout v1 4\nskip 5\ntest v1 6 7\nend\nend\n", "01", "0 1 2 3 4 5 6"},
		// It comes to steps twice, and more often.
		{loopText, "1", "0 1 5"},
		{loopText, "001", "0 1 2 3 1 5"},
		{loopText, "01011", "0 1 2 4 1 2 4 1 5"},
		{loopText, "0001001", "0 1 2 3 1 2 4 1 2 3 1 5"},
		{loopText, "0000000000001", "0 1 2 3 1 2 3 1 2 3 1 2 3 1 2 3 1 2 3 1 5"},
		// Without a choice more it goes round for ever.
		{loopText, "", ""},
		{loopText, "0", ""},
		{loopText, "0101010", ""},
		{loopText, "0101011", "0 1 2 4 1 2 4 1 2 4 1 5"},
	} {
		c.check(t)
	}
}

func TestPathsByChoicesAtTheEdges(t *testing.T) {
	for _, c := range []choiceCase{
		// Just one step.
		{"end\n", "", "0"},
		{"end\n", "1101", "0"},
		{"end\nskip 0\n", "", "0"},
		// Ways that lead round, and a step whose way leads to itself.
		{"skip 0\n", "", ""},
		{"skip 0\n", "1", ""},
		{"skip 1\nskip 0\nend\n", "0", ""},
		{"skip 1\nout v0 1\nend\n", "", ""},
		{"test v0 0 0\n", "01", ""},
		{"test v0 0 1\nend\n", "", ""},
		{"test v0 0 1\nend\n", "0", ""},
		{"test v0 0 1\nend\n", "1", "0 1"},
		{"test v0 0 1\nend\n", "0001", "0 0 0 0 1"},
		{"test v0 1 0\nend\n", "", "0 1"},
		{"test v0 1 0\nend\n", "11", "0 0 0 1"},
		{"test v0 1 0\nend\n", "110111", "0 0 0 1"},
		// A choice whose both ways are one takes a choice, too.
		{"test v0 1 1\nend\n", "", "0 1"},
		{"test v0 1 1\nend\n", "1", "0 1"},
		{"test v0 1 1\ntest v0 2 3\nend\nend\n", "10", "0 1 2"},
		{"test v0 1 1\ntest v0 2 3\nend\nend\n", "01", "0 1 3"},
		{"test v0 1 1\ntest v0 2 3\nend\nend\n", "1", "0 1 2"},
		// It hangs on the choices alone, not on what is tested.
		{"test 0 1 2\nend\nend\n", "", "0 1"},
		{"test 1 1 2\nend\nend\n", "1", "0 2"},
		// Several ends, and steps that cannot be come to.
		{"test v0 1 2\nend\ntest v0 1 3\nend\n", "11", "0 2 3"},
		{"test v0 1 2\nend\ntest v0 1 3\nend\n", "10", "0 2 1"},
		{"test v0 3 2\nskip 0\nend\nend\nskip 4\n", "", "0 3"},
		// The first step, come to again.
		{"out v0 1\ntest v0 0 2\nend\n", "001", "0 1 0 1 0 1 2"},
	} {
		c.check(t)
	}
}

// stepsCase is a program, and by hand rows of numbers with commas between that are paths, and such that are none.
type stepsCase struct {
	text string
	yes  string
	no   string
}

func (c stepsCase) check(t *testing.T, paths string, want bool) {
	t.Helper()
	p := told(t, c.text)
	for _, said := range strings.Split(paths, ",") {
		path := pathTold(t, said)
		if got := impl.PathOk(p, path); got != want {
			t.Errorf("%q: %v: %v", c.text, path, got)
		}
		if isPathByNodes(p, path) != want {
			t.Errorf("%q: %v: by nodes not %v", c.text, path, want)
		}
	}
}

func TestWhatIsAPathByHand(t *testing.T) {
	for _, c := range []stepsCase{
		{twiceText, "0 1 3 4 6, 0 1 3 5 6, 0 2 3 4 6, 0 2 3 5 6",
			// Nothing, too little, past an end, to where no way leads, back, a step left out, a step twice.
			", 0, 0 1 3 4, 1 3 4 6, 3 4 6, 6, 0 1 3 4 6 6, 0 1 3 4 6 0, 0 3 4 6, 0 1 4 6, 0 1 2 3 4 6, 0 0 1 3 4 6, 0 1 1 3 4 6, 6 4 3 1 0, 0 6, 0 1 3 6"},
		{loopText, "0 1 5, 0 1 2 3 1 5, 0 1 2 4 1 5, 0 1 2 4 1 2 3 1 2 3 1 2 4 1 5",
			"0 1, 0 1 2 3 1, 1 5, 0 5, 0 1 2 4 5, 0 1 2 4 3 1 5, 0 1 1 5, 0 1 5 5, 0 1 5 1 5"},
		// One step.
		{"end\n", "0", ", 0 0, 1, -1, 0 1"},
		{"skip 0\n", "", "0, 0 0, 0 0 0, 0 1"},
		{"skip 1\nend\n", "0 1", "1, 0, 1 0, 0 0 1, 0 1 1"},
		// A step whose way leads to itself.
		{"test v0 0 1\nend\n", "0 1, 0 0 1, 0 0 0 0 0 1", "0, 0 0, 0 0 1 1, 1, 1 0 1"},
		// A choice whose both ways are one, and one back to the first step.
		{"test v0 1 1\ntest v0 0 2\nend\n", "0 1 2, 0 1 0 1 2", "0 2, 0 1, 0 1 1 2, 0 1 0 2"},
		// An end in the middle, and another one that cannot be come to.
		{"test v0 1 2\nend\nskip 1\nend\nskip 1\n", "0 1, 0 2 1", "0 1 2 1, 0 1 1, 0 3, 3, 0 4 1, 4 1, 0 2 3"},
		// Numbers that are no steps.
		{"skip 1\nskip 2\nend\n", "0 1 2", "-1 0 1 2, 0 -1 2, 0 1 -1, 0 1 2 -1, 3 1 2, 0 3 2, 0 1 3, 0 1 2 3, 0 1 9223372036854775807, -9223372036854775808, 4294967296 1 2, 0 4294967297 2, 64 1 2, 0 65 2, 256"},
	} {
		if c.yes != "" {
			c.check(t, c.yes, true)
		}
		c.check(t, c.no, false)
	}
}

// round is a path round and round the first step of `test v0 0 1`, of so many steps.
func round(size int) []int {
	return append(make([]int, size-1), 1)
}

func TestPathsAtTheBound(t *testing.T) {
	if impl.PathMax != 200 {
		t.Fatal(impl.PathMax)
	}
	p, e := told(t, "test v0 0 1\nend\n"), movables()[0]
	for size := 2; size <= 420; size++ {
		choices := append(make([]bool, size-2), true)
		path, ok := impl.PathOf(p, choices)
		count := impl.PathCount(p, e, impl.Place{Puts: []bool{true, false}, Takes: make([]bool, 2)}, round(size))
		best := impl.PathBest(p, e, round(size))
		if size > 200 {
			if ok || len(path) != 0 || impl.PathOk(p, round(size)) || count != -1 || best != -1 {
				t.Fatalf("%d: %v %v, %d, %d", size, ok, path, count, best)
			}
		} else if !ok || !slices.Equal(path, round(size)) || !impl.PathOk(p, round(size)) || count != size-1 || best != 0 {
			t.Fatalf("%d: %v %v, %d, %d", size, ok, path, count, best)
		}
	}
}

// Loops of each length, gone round as often as there is room, and once more.
func TestLongPathsOfEachLoop(t *testing.T) {
	for size := 2; size <= impl.ProgMax; size++ {
		p := chained(strings.Repeat("r", size-1))
		back := size - 2
		p.Steps[back] = impl.Step{Kind: impl.StepTest, A: variable(idleVar), Next: []int{0, size - 1}}
		for rounds := 1; rounds*(size-1)+1 <= 260; rounds++ {
			choices := append(make([]bool, rounds-1), true)
			length := rounds*(size-1) + 1
			path, ok := impl.PathOf(p, choices)
			if want, _ := pathByNodes(p, choices, 1000); len(want) != length || ok != (length <= 200) || impl.PathOk(p, want) != ok || ok && !slices.Equal(path, want) || !ok && len(path) != 0 {
				t.Fatalf("%d, %d: %v %v", size, rounds, ok, path)
			}
			count := impl.PathCount(p, movables()[0], impl.PlaceNone(p, movables()[0]), path)
			if want := rounds * (size - 2); ok && count != want || !ok && count != -1 {
				t.Fatalf("%d, %d: %d times", size, rounds, count)
			}
		}
	}
}

// The longest path without a step twice, and choices far more than a path has room for.
func TestPathsOfTheGreatest(t *testing.T) {
	p := chained(strings.Repeat("r", impl.ProgMax-1))
	path, ok := impl.PathOf(p, make([]bool, 100000))
	if !ok || len(path) != impl.ProgMax || path[impl.ProgMax-1] != impl.ProgMax-1 || !impl.PathOk(p, path) {
		t.Errorf("%v %v", ok, path)
	}
	q := told(t, "test v0 1 0\nend\n")
	for _, count := range []int{0, 1, 198, 199, 200, 100000} {
		yes := slices.Repeat([]bool{true}, count)
		path, ok := impl.PathOf(q, yes)
		if ok != (count <= 198) || ok && (len(path) != count+2 || !impl.PathOk(q, path)) || !ok && len(path) != 0 {
			t.Errorf("%d: %v %v", count, ok, path)
		}
		if impl.PathOk(q, make([]int, count)) {
			t.Errorf("%d times the first step", count)
		}
	}
}

// checkChoices holds PathOf against a path by nodes.
func checkChoices(t *testing.T, p impl.Prog, choices []bool) bool {
	t.Helper()
	path, ok := impl.PathOf(p, choices)
	want, fine := pathByNodes(p, choices, 200)
	if ok != fine || !slices.Equal(path, want) {
		t.Fatalf("%q, %s: %v %v, not %v %v", impl.ProgWrite(p), row(choices), ok, path, fine, want)
	}
	return ok
}

// manyChoices hands on programs of each kind with all rows of three choices and less, and long ones.
func manyChoices(yield func(p impl.Prog, choices []bool)) {
	d := &dice{state: 93}
	rows := func(p impl.Prog, most int) {
		for size := range most + 1 {
			eachRow(size, func(choices []bool) { yield(p, choices) })
		}
		for _, size := range []int{7, 40, 250} {
			choices := make([]bool, size)
			for i := range choices {
				choices[i] = d.roll(3) > 0
			}
			yield(p, choices)
			slices.Reverse(choices)
			yield(p, choices)
		}
		if path := d.wander(p, 10+d.roll(180)); path != nil {
			yield(p, choicesOf(p, path))
		}
	}
	for size := 1; size <= 2; size++ {
		smallProgs(size, func(p impl.Prog) { rows(p, 4) })
	}
	smallProgs(3, func(p impl.Prog) { rows(p, 2) })
	for size := 1; size <= impl.ProgMax; size++ {
		for range 4 {
			rows(d.flow(size), 3)
			rows(d.strewn(d.loopy(size)), 3)
			rows(d.prog(size), 1)
			rows(tidyByNodes(d.loopy(size/2+1)), 3)
		}
	}
}

func TestPathsByChoicesAgainstNodes(t *testing.T) {
	counts := map[bool]int{}
	manyChoices(func(p impl.Prog, choices []bool) {
		if len(p.Steps) <= impl.ProgMax {
			counts[checkChoices(t, p, choices)]++
		}
	})
	if counts[true] < 10000 || counts[false] < 10000 {
		t.Error(counts)
	}
}

// Of small programs all rows of numbers are tried, also such as are no steps: just those are paths to which ways lead on.
func TestWhatIsAPathAgainstAllRows(t *testing.T) {
	paths, tried := 0, 0
	for size := 1; size <= 3; size++ {
		most := 7 - size
		smallProgs(size, func(p impl.Prog) {
			grown := map[[6]int]bool{}
			growPaths(p, most, func(path []int) { grown[keyOf(path)] = true })
			paths += len(grown)
			eachNumbers(size, most, func(path []int) {
				tried++
				if got := impl.PathOk(p, path); got != grown[keyOf(path)] {
					t.Fatalf("%q: %v: %v", impl.ProgWrite(p), path, got)
				}
			})
		})
	}
	if paths < 500 {
		t.Errorf("only %d of %d are paths", paths, tried)
	}
}

// keyOf is a path of at most so many steps as what can be a key.
func keyOf(path []int) [6]int {
	key := [6]int{-9, -9, -9, -9, -9, -9}
	copy(key[:], path)
	return key
}

// eachNumbers hands on each row of numbers from -1 to one more than the last step of so many, as long as that or shorter.
func eachNumbers(size, most int, yield func(path []int)) {
	row := make([]int, most)
	var fill func(at int)
	fill = func(at int) {
		yield(row[:at])
		if at == most {
			return
		}
		for n := -1; n <= size; n++ {
			row[at] = n
			fill(at + 1)
		}
	}
	fill(0)
}

// nearlyPaths are rows of numbers that differ little from a path.
func (d *dice) nearlyPaths(p impl.Prog, path []int) [][]int {
	size := len(p.Steps)
	at := d.roll(len(path))
	other := slices.Clone(path)
	other[at] = d.roll(size+2) - 1
	far := slices.Clone(path)
	far[at] = []int{-1 << 63, -1, size, size + 1, 64, path[at] + 64, path[at] + 1<<32, path[at] - size, 1<<63 - 1}[d.roll(9)]
	swapped := slices.Clone(path)
	k := d.roll(len(path))
	swapped[at], swapped[k] = swapped[k], swapped[at]
	return [][]int{
		other, far, swapped,
		slices.Delete(slices.Clone(path), at, at+1),
		slices.Insert(slices.Clone(path), at, path[at]),
		slices.Insert(slices.Clone(path), at, d.roll(size)),
		path[:at], path[at:], append(slices.Clone(path), path[at]), append(slices.Clone(path), d.roll(size)),
		append(slices.Clone(path), path...),
	}
}

func TestWhatIsAPathAgainstNodes(t *testing.T) {
	d := &dice{state: 94}
	counts := map[bool]int{}
	check := func(p impl.Prog, path []int) {
		got := impl.PathOk(p, path)
		if got != isPathByNodes(p, path) {
			t.Fatalf("%q: %v: %v", impl.ProgWrite(p), path, got)
		}
		counts[got]++
	}
	for size := 1; size <= impl.ProgMax; size++ {
		for range 6 {
			for _, p := range []impl.Prog{d.flow(size), d.prog(size), d.strewn(d.loopy(size))} {
				for range 3 {
					path := d.wander(p, d.roll(250))
					check(p, path)
					if len(path) == 0 {
						continue
					}
					for _, other := range d.nearlyPaths(p, path) {
						check(p, other)
					}
				}
			}
		}
	}
	if counts[true] < 2000 || counts[false] < 10000 {
		t.Error(counts)
	}
}
