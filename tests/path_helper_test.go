package tests

import (
	"slices"
	"strconv"
	"strings"
	"testing"

	"loop.example/causey/impl"
)

// pathTold is the numbers of a text, with blanks between.
func pathTold(t *testing.T, text string) []int {
	t.Helper()
	var path []int
	for _, word := range strings.Fields(text) {
		n, err := strconv.Atoi(word)
		if err != nil {
			t.Fatalf("%q is no path", text)
		}
		path = append(path, n)
	}
	return path
}

func pathSaid(path []int) string {
	var words []string
	for _, at := range path {
		words = append(words, strconv.Itoa(at))
	}
	return strings.Join(words, " ")
}

// choicesTold is a choice for each digit of a text.
func choicesTold(t *testing.T, text string) []bool {
	t.Helper()
	return rowTold(t, text, len(text))
}

// pathByNodes goes from node to node by choices, as far as so many steps; false, if that comes to no end.
func pathByNodes(p impl.Prog, choices []bool, most int) ([]int, bool) {
	nodes := nodesOf(p)
	var path []int
	for n := nodes[0]; len(path) < most; {
		path = append(path, slices.Index(nodes, n))
		way := 0
		switch n.step.Kind {
		case impl.StepEnd:
			return path, true
		case impl.StepTest:
			if len(choices) > 0 && choices[0] {
				way = 1
			}
			choices = choices[min(1, len(choices)):]
		}
		n = n.next[way]
	}
	return nil, false
}

// isPathByNodes goes from node to node as the numbers say.
func isPathByNodes(p impl.Prog, path []int) bool {
	nodes := nodesOf(p)
	ways := nodes[:1]
	var last *node
	for _, at := range path {
		last = nil
		for _, n := range ways {
			if slices.Index(nodes, n) == at {
				last = n
			}
		}
		if last == nil {
			return false
		}
		ways = last.next
	}
	return last != nil && last.step.Kind == impl.StepEnd && len(path) <= 200
}

// growPaths hands on each row of ways from the first step on that comes to an end in at most so many steps.
func growPaths(p impl.Prog, most int, yield func(path []int)) {
	var grow func(path []int)
	grow = func(path []int) {
		s := p.Steps[path[len(path)-1]]
		if s.Kind == impl.StepEnd {
			yield(slices.Clone(path))
			return
		}
		for k, next := range s.Next {
			if len(path) < most && !slices.Contains(s.Next[:k], next) {
				grow(append(path, next))
			}
		}
	}
	grow([]int{0})
}

// eachRow hands on each row of so many choices.
func eachRow(size int, yield func(choices []bool)) {
	for bits := range 1 << size {
		choices := make([]bool, size)
		for i := range choices {
			choices[i] = bits>>i&1 == 1
		}
		yield(choices)
	}
}

// choicesOf is the choices by which one goes a path.
func choicesOf(p impl.Prog, path []int) []bool {
	var choices []bool
	for i, at := range path {
		if s := p.Steps[at]; s.Kind == impl.StepTest {
			choices = append(choices, path[i+1] != s.Next[0])
		}
	}
	return choices
}

// waysToEnd is, of each step, over how many ways the nearest end is; -1, if there is none.
func waysToEnd(p impl.Prog) []int {
	far := make([]int, len(p.Steps))
	for at, s := range p.Steps {
		far[at] = -1
		if s.Kind == impl.StepEnd {
			far[at] = 0
		}
	}
	for count := 1; count < len(far); count++ {
		for at, s := range p.Steps {
			if far[at] < 0 && someOf(s.Next, func(next int) bool { return far[next] == count-1 }) {
				far[at] = count
			}
		}
	}
	return far
}

// wander is a path that goes on anywhere for so many steps, where an end can still be come to, and from there by as few steps as can be; nothing, if there is no path.
func (d *dice) wander(p impl.Prog, most int) []int {
	far := waysToEnd(p)
	if far[0] < 0 {
		return nil
	}
	path, at := []int{0}, 0
	for p.Steps[at].Kind != impl.StepEnd {
		list := slices.DeleteFunc(slices.Clone(p.Steps[at].Next), func(next int) bool { return far[next] < 0 })
		if len(path) >= most {
			list = []int{slices.MinFunc(list, func(a, b int) int { return far[a] - far[b] })}
		}
		at = list[d.roll(len(list))]
		path = append(path, at)
	}
	return path
}

// pathsOf are paths of a program, each once: by all rows of three choices, and by long ones.
func (d *dice) pathsOf(p impl.Prog) [][]int {
	var paths [][]int
	known := map[string]bool{}
	add := func(path []int) {
		if said := pathSaid(path); len(path) > 0 && len(path) <= 200 && !known[said] {
			known[said] = true
			paths = append(paths, path)
		}
	}
	eachRow(3, func(choices []bool) {
		path, _ := pathByNodes(p, choices, 200)
		add(path)
	})
	for _, most := range []int{5, 15, 40, 180} {
		add(d.wander(p, most))
	}
	return paths
}

// countByWords is how often it is reckoned on a path, step by step.
func (s scene) countByWords(x impl.Place, path []int) int {
	reckons, _ := sayers(s.p)
	var done []string
	for _, at := range path {
		if x.Puts[at] {
			done = append(done, exprSaid(s.e))
		}
		if !x.Takes[at] {
			done = append(done, reckons[at])
		}
	}
	return len(slices.DeleteFunc(done, func(said string) bool { return said != exprSaid(s.e) }))
}

// reckonedOn is how many steps of a path are such that reckon it.
func reckonedOn(p impl.Prog, e impl.Expr, path []int) int {
	count := 0
	for _, at := range path {
		if f, ok := exprOf(p.Steps[at]); ok && f == e {
			count++
		}
	}
	return count
}

// comesTo is how often a path comes to steps of which something is so.
func comesTo(path []int, row []bool) int {
	count := 0
	for _, at := range path {
		if row[at] {
			count++
		}
	}
	return count
}

// steered is a program whose choices each hang on what comes in just ahead of them, so that a run goes as what comes in says; nothing, if that has no room.
func steered(p impl.Prog) impl.Prog {
	q := cloneProg(p)
	for at, s := range p.Steps {
		if s.Kind == impl.StepTest {
			q.Steps[at] = impl.Step{Kind: impl.StepIn, Dst: steerVar, Next: []int{len(q.Steps)}}
			q.Steps = append(q.Steps, impl.Step{Kind: impl.StepTest, A: variable(steerVar), Next: slices.Clone(s.Next)})
		}
	}
	if len(q.Steps) > impl.ProgMax {
		return impl.Prog{}
	}
	return q
}

// steerVar is a variable with which movers have nothing to do.
const steerVar = 10

// inputAlong is what must come in, so that a run of a steered program goes a path.
func (d *dice) inputAlong(p impl.Prog, path []int) []int {
	var in []int
	for i, at := range path {
		s := p.Steps[at]
		switch {
		case s.Kind == impl.StepIn && s.Dst == steerVar:
			in = append(in, 0)
		case s.Kind == impl.StepIn:
			in = append(in, d.roll(65536))
		case s.Kind == impl.StepTest && path[i+1] == s.Next[0]:
			in[len(in)-1] = 1 + d.roll(65535)
		}
	}
	return in
}

// windingMovers hands on programs of each of these sizes that go round and round and come to an end at last, and what they are made by tidying.
func windingMovers(from, to, times int, yield func(p impl.Prog, e impl.Expr)) {
	d := &dice{state: 91}
	for size := from; size <= to; size++ {
		for range times {
			for _, e := range movables() {
				p := d.loopy(size)
				p.Steps[size-1] = impl.Step{Kind: impl.StepEnd}
				p = d.about(d.strewn(p), e, []int{3, 6, 10}[d.roll(3)], []int{0, 1, 2}[d.roll(3)])
				bothTidy(p, e, yield)
			}
		}
	}
}

// tidyPaths hands on tidy programs with paths of each.
func tidyPaths(yield func(s scene, paths [][]int)) {
	d := &dice{state: 92}
	some := func(p impl.Prog, e impl.Expr) {
		if !tidyByAsking(p) {
			return
		}
		if paths := d.pathsOf(p); len(paths) > 0 {
			yield(sceneOf(p, e), paths)
		}
	}
	tidyMovers(some)
	windingMovers(2, 45, 8, some)
}

// manyPaths hands on programs, tidy or not, with paths of each.
func manyPaths(yield func(s scene, paths [][]int)) {
	d := &dice{state: 93}
	some := func(p impl.Prog, e impl.Expr) {
		if paths := d.pathsOf(p); len(paths) > 0 {
			yield(sceneOf(p, e), paths)
		}
	}
	smallMovers(some)
	greatMovers(1, impl.ProgMax, 2, some)
	runMovers(1, impl.ProgMax, 1, some)
	windingMovers(2, impl.ProgMax, 2, some)
}
