package tests

import (
	"slices"
	"strings"
	"testing"

	"loop.example/causey/impl"
)

// reachWithout is which steps can be come to if one step is shut; with shut -1, if none is. It goes on until nothing is new, without order or stack.
func reachWithout(p impl.Prog, shut int) []bool {
	reach := make([]bool, len(p.Steps))
	reach[0] = shut != 0
	for fresh := true; fresh; {
		fresh = false
		for i, s := range p.Steps {
			for _, next := range s.Next {
				if reach[i] && next != shut && !reach[next] {
					reach[next], fresh = true, true
				}
			}
		}
	}
	return reach
}

// predsByAsking asks of each two steps whether a way leads from one to the other.
func predsByAsking(p impl.Prog) [][]int {
	reach := reachWithout(p, -1)
	preds := make([][]int, len(p.Steps))
	for to := range p.Steps {
		for from, s := range p.Steps {
			if reach[from] && slices.Contains(s.Next, to) {
				preds[to] = append(preds[to], from)
			}
		}
	}
	return preds
}

// domsByShutting: a step stands on each way to another one, if that cannot be come to any more when it is shut.
func domsByShutting(p impl.Prog) [][]bool {
	reach := reachWithout(p, -1)
	doms := make([][]bool, len(p.Steps))
	for to := range doms {
		doms[to] = make([]bool, len(p.Steps))
	}
	for shut := range p.Steps {
		for to, can := range reachWithout(p, shut) {
			doms[to][shut] = reach[to] && !can
		}
	}
	return doms
}

func tidyByAsking(p impl.Prog) bool {
	for i := range p.Steps {
		ways, plain := 0, 0
		for _, from := range p.Steps {
			for _, next := range from.Next {
				if next == i {
					ways++
					if from.Kind != impl.StepSkip {
						plain++
					}
				}
			}
		}
		if i == 0 && ways > 0 || ways > 1 && plain > 0 || !reachWithout(p, -1)[i] {
			return false
		}
	}
	return true
}

// node is a step that knows the steps behind it, not their places: steps can be put anywhere, and are numbered last.
type node struct {
	step impl.Step
	next []*node
}

func nodesOf(p impl.Prog) []*node {
	nodes := make([]*node, len(p.Steps))
	for i, s := range p.Steps {
		nodes[i] = &node{step: s}
	}
	for i, s := range p.Steps {
		for _, next := range s.Next {
			nodes[i].next = append(nodes[i].next, nodes[next])
		}
	}
	return nodes
}

func progOfNodes(nodes []*node) impl.Prog {
	var p impl.Prog
	for _, n := range nodes {
		s := n.step
		s.Next = nil
		for _, to := range n.next {
			s.Next = append(s.Next, slices.Index(nodes, to))
		}
		p.Steps = append(p.Steps, s)
	}
	return p
}

func skipNode(to *node) *node {
	return &node{step: impl.Step{Kind: impl.StepSkip}, next: []*node{to}}
}

func waysTo(nodes []*node, to *node) int {
	ways := 0
	for _, n := range nodes {
		for _, next := range n.next {
			if next == to {
				ways++
			}
		}
	}
	return ways
}

// tidyByNodes is FlowTidy of a program that is ok, without its bound.
func tidyByNodes(p impl.Prog) impl.Prog {
	var nodes []*node
	for i, n := range nodesOf(p) {
		if reachWithout(p, -1)[i] {
			nodes = append(nodes, n)
		}
	}
	if first := nodes[0]; waysTo(nodes, first) > 0 {
		nodes = append(append([]*node{skipNode(first)}, nodes[1:]...), first)
	}
	all := slices.Clone(nodes)
	for _, n := range nodes {
		for i, to := range n.next {
			if n.step.Kind != impl.StepSkip && waysTo(all, to) > 1 {
				between := skipNode(to)
				n.next[i] = between
				all = append(all, between)
			}
		}
	}
	return progOfNodes(all)
}

// flow is a program of so many steps with many choices, most of which can be come to.
func (d *dice) flow(size int) impl.Prog {
	kinds := []int{1, 2, 3, 4, 4, 5, 5, 5, 5, 6, 6}
	if d.roll(6) == 0 {
		kinds = append(kinds, 7)
	}
	var p impl.Prog
	for i := range size {
		kind := kinds[d.roll(len(kinds))]
		if i == size-1 && d.roll(2) == 0 {
			kind = impl.StepEnd
		}
		s := d.step(kind, size)
		for k := range s.Next {
			s.Next[k] = min(i+1, size-1)
		}
		if len(s.Next) == 2 || len(s.Next) == 1 && d.roll(16) == 0 {
			s.Next[d.roll(len(s.Next))] = d.way(i, size)
		}
		p.Steps = append(p.Steps, s)
	}
	return p
}

// way is where a way from a step leads: mostly on, sometimes back, to itself, to the first, or anywhere.
func (d *dice) way(from, size int) int {
	switch d.roll(8) {
	case 0:
		return d.roll(from + 1)
	case 1:
		return d.roll(size)
	case 2:
		if d.roll(4) == 0 {
			return []int{0, from}[d.roll(2)]
		}
	case 3, 4, 5:
		return min(from+2+d.roll(3), size-1)
	}
	return min(from+1, size-1)
}

// smallProgs hands on each program of so many steps that has an end, a skip, an out or a choice at each place.
func smallProgs(size int, yield func(p impl.Prog)) {
	var steps []impl.Step
	steps = append(steps, impl.Step{Kind: impl.StepEnd})
	for a := range size {
		steps = append(steps, impl.Step{Kind: impl.StepSkip, Next: []int{a}}, impl.Step{Kind: impl.StepOut, Next: []int{a}})
		for b := range size {
			steps = append(steps, impl.Step{Kind: impl.StepTest, A: variable(1), Next: []int{a, b}})
		}
	}
	picks := make([]int, size)
	for {
		p := impl.Prog{Steps: make([]impl.Step, size)}
		for i, pick := range picks {
			p.Steps[i] = steps[pick]
		}
		yield(p)
		at := 0
		for at < size && picks[at] == len(steps)-1 {
			picks[at] = 0
			at++
		}
		if at == size {
			return
		}
		picks[at]++
	}
}

// manyFlows hands on small programs, all of them, and many greater ones of each size.
func manyFlows(yield func(p impl.Prog)) {
	for size := 1; size <= 3; size++ {
		smallProgs(size, yield)
	}
	d := &dice{state: 21}
	for size := 1; size <= impl.ProgMax; size++ {
		for range 12 {
			yield(d.flow(size))
			yield(d.prog(size))
		}
	}
}

// wrongProgs are programs that are not ok, each for a reason of its own.
func wrongProgs() []impl.Prog {
	d := &dice{state: 22}
	list := []impl.Prog{{}, {Steps: []impl.Step{}}, skips(61), {Steps: []impl.Step{{}}}}
	spoil := func(change func(s *impl.Step)) {
		p := d.flow(9)
		p.Steps[0] = impl.Step{Kind: impl.StepEnd}
		p.Steps[8] = impl.Step{Kind: impl.StepSkip, Next: []int{0}}
		// The last step cannot be come to: a program is not ok for such a one, too.
		change(&p.Steps[8])
		list = append(list, p)
	}
	spoil(func(s *impl.Step) { s.Next[0] = 9 })
	spoil(func(s *impl.Step) { s.Next[0] = -1 })
	spoil(func(s *impl.Step) { s.Next[0] = 1 << 40 })
	spoil(func(s *impl.Step) { s.Next = nil })
	spoil(func(s *impl.Step) { s.Next = []int{0, 0} })
	spoil(func(s *impl.Step) { s.Kind = 8 })
	spoil(func(s *impl.Step) { s.Kind = 0 })
	spoil(func(s *impl.Step) { s.Kind = impl.StepEnd })
	spoil(func(s *impl.Step) { s.Kind = impl.StepTest })
	spoil(func(s *impl.Step) { s.Dst = 1 })
	spoil(func(s *impl.Step) { s.Op = impl.OpAdd })
	spoil(func(s *impl.Step) { s.A = num(1) })
	spoil(func(s *impl.Step) { s.B = variable(1) })
	return list
}

func row(list []bool) string {
	var text strings.Builder
	for _, x := range list {
		if x {
			text.WriteByte('1')
		} else {
			text.WriteByte('0')
		}
	}
	return text.String()
}

func rows(lists [][]bool) string {
	var words []string
	for _, list := range lists {
		words = append(words, row(list))
	}
	return strings.Join(words, " ")
}

func sameLists[T comparable](a, b [][]T) bool {
	return slices.EqualFunc(a, b, slices.Equal[[]T])
}

// told is the program of a text that is one.
func told(t *testing.T, text string) impl.Prog {
	t.Helper()
	p, ok := readByForms(text)
	if !ok {
		t.Fatalf("%q is no program", text)
	}
	return p
}
