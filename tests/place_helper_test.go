package tests

import (
	"slices"

	"loop.example/causey/impl"
)

// scene is a program that is ok with a reckoning that is ok, and what the tests' own means tell of both.
type scene struct {
	matter
	safeTold
	e impl.Expr
}

func sceneOf(p impl.Prog, e impl.Expr) scene {
	return scene{matter: matterOf(p, e), safeTold: safeByWays(p, e), e: e}
}

// The two sentences about ways of moving, word for word: whether one is true of a step, if `so` is what it is so of.

func (s scene) saidHeld(at int, puts, so []bool) bool {
	return puts[at] || at != 0 && !someOf(s.ahead[at], func(from int) bool { return !(s.keeps[from] && so[from]) })
}

func (s scene) saidLive(at int, x impl.Place, so []bool) bool {
	return !x.Puts[at] && (x.Takes[at] || someOf(s.behind(at), func(next int) bool { return so[next] }))
}

// held is ahead of which steps it is held: those from which no row of ways leads back, past no put, to where something is wrong.
func (s scene) held(puts []bool) []bool {
	return s.each(func(at int) bool {
		return !comes(at, func(at int) bool {
			return !puts[at] && (at == 0 || someOf(s.ahead[at], func(from int) bool { return !s.keeps[from] }))
		}, func(at int) []int {
			if puts[at] {
				return nil
			}
			return s.ahead[at]
		})
	})
}

// live is ahead of which steps what is kept is needed: those from which a row of ways leads, past no put, to a step that takes it.
func (s scene) live(x impl.Place) []bool {
	list := make([]bool, len(s.reach))
	for at := range list {
		list[at] = comes(at, func(at int) bool { return !x.Puts[at] && x.Takes[at] }, func(at int) []int {
			if x.Puts[at] {
				return nil
			}
			return s.behind(at)
		})
	}
	return list
}

// fewestBySets tries all sets of steps, and takes the least of those that are just what a sentence makes of them.
func fewestBySets(size int, said func(at int, so []bool) bool) []bool {
	var best []bool
	for bits := range 1 << size {
		so, fits := make([]bool, size), true
		for at := range so {
			so[at] = bits>>at&1 == 1
		}
		for at := range so {
			fits = fits && so[at] == said(at, so)
		}
		if fits && (best == nil || countOf(so) < countOf(best)) {
			best = so
		}
	}
	return best
}

func (s scene) hasForm(x impl.Place) bool {
	return len(x.Puts) == len(s.reach) && len(x.Takes) == len(s.reach)
}

func (s scene) canPut(at int) bool {
	return s.down[at] || s.up[at]
}

// admits is PlaceOk.
func (s scene) admits(x impl.Place) bool {
	if !s.hasForm(x) {
		return false
	}
	held := s.held(x.Puts)
	for at := range held {
		if x.Puts[at] && !s.canPut(at) || x.Takes[at] && !(s.reckons[at] && held[at]) {
			return false
		}
	}
	return true
}

func (s scene) none() impl.Place {
	return impl.Place{Puts: make([]bool, len(s.reach)), Takes: make([]bool, len(s.reach))}
}

// reckoners is the steps that can be come to that reckon it.
func (s scene) reckoners() []bool {
	return s.each(func(at int) bool { return s.reckons[at] })
}

func (s scene) busy() impl.Place {
	return impl.Place{Puts: slices.Clone(s.early), Takes: s.reckoners()}
}

// latest is to reckon at all latest places.
func (s scene) latest() impl.Place {
	return impl.Place{Puts: slices.Clone(s.late), Takes: s.reckoners()}
}

func (s scene) lazy() impl.Place {
	x := s.latest()
	for at := range x.Puts {
		if s.late[at] && s.alone[at] {
			x.Puts[at], x.Takes[at] = false, false
		}
	}
	return x
}

// allSafe is to reckon wherever that is safe, and to take it wherever that can be.
func (s scene) allSafe() impl.Place {
	return impl.Place{Puts: s.each(s.canPut), Takes: s.reckoners()}
}

func samePlace(x, y impl.Place) bool {
	return slices.Equal(x.Puts, y.Puts) && slices.Equal(x.Takes, y.Takes)
}

func clonePlace(x impl.Place) impl.Place {
	return impl.Place{Puts: slices.Clone(x.Puts), Takes: slices.Clone(x.Takes)}
}

func placeRows(x impl.Place) string {
	return row(x.Puts) + " " + row(x.Takes)
}

// hereAndThere is an admissible way: one of those that have names, with some puts more, some less, and so taken only by some of those that can.
func (d *dice) hereAndThere(s scene) impl.Place {
	x := []impl.Place{s.none(), s.busy(), s.lazy(), s.latest(), s.allSafe()}[d.roll(5)]
	more, less, leave := d.roll(5), d.roll(3), d.roll(3)
	for at, yes := range x.Puts {
		if yes {
			x.Puts[at] = d.roll(10) >= less
		} else {
			x.Puts[at] = s.canPut(at) && d.roll(10) < more
		}
	}
	held := s.held(x.Puts)
	for at := range held {
		x.Takes[at] = s.reckons[at] && held[at] && d.roll(4) >= leave
	}
	return x
}

// wayOfMoving is an admissible way with its name.
type wayOfMoving struct {
	name string
	impl.Place
}

// waysOfMoving are ways that are admissible, of each name, and some here and there.
func (d *dice) waysOfMoving(s scene) []wayOfMoving {
	list := []wayOfMoving{{"none", s.none()}, {"busy", s.busy()}, {"lazy", s.lazy()}, {"latest", s.latest()}, {"all", s.allSafe()}}
	list = slices.DeleteFunc(list, func(w wayOfMoving) bool { return !s.admits(w.Place) })
	for range 3 {
		list = append(list, wayOfMoving{"here and there", d.hereAndThere(s)})
	}
	return list
}

// anyPlace has the form, and is admissible or not: one that is, with a few steps otherwise, or puts and takes anywhere.
func (d *dice) anyPlace(s scene) impl.Place {
	x := d.hereAndThere(s)
	if d.roll(3) == 0 {
		for at := range x.Puts {
			x.Puts[at], x.Takes[at] = d.roll(4) == 0, d.roll(4) == 0
		}
		return x
	}
	for range d.roll(3) {
		at := d.roll(len(x.Puts))
		if d.roll(2) == 0 {
			x.Puts[at] = !x.Puts[at]
		} else {
			x.Takes[at] = !x.Takes[at]
		}
	}
	return x
}

// formless are ways of moving without the form, for a program of so many steps.
func formless(size int) []impl.Place {
	var list []impl.Place
	rows := func(size int) [][]bool {
		return [][]bool{make([]bool, size), slices.Repeat([]bool{true}, size)}
	}
	for _, short := range []int{0, size - 1, size + 1, 2 * size, 64, 1000} {
		if short == size {
			continue
		}
		for _, a := range rows(size) {
			for _, b := range rows(short) {
				list = append(list, impl.Place{Puts: a, Takes: b}, impl.Place{Puts: b, Takes: a}, impl.Place{Puts: b, Takes: slices.Clone(b)})
			}
		}
	}
	return append(list, impl.Place{}, impl.Place{Puts: make([]bool, size)}, impl.Place{Takes: make([]bool, size)})
}

// free is the variables with which neither the program nor the reckoning has to do.
func free(p impl.Prog, e impl.Expr) []int {
	return slices.DeleteFunc(idle(p), func(v int) bool { return e.A == variable(v) || e.B == variable(v) })
}

// movedByNodes is PlaceDo of a way that is admissible, and a variable that is free, without its bound.
func movedByNodes(p impl.Prog, e impl.Expr, x impl.Place, keep int) impl.Prog {
	nodes := nodesOf(p)
	for at, n := range slices.Clone(nodes) {
		if x.Takes[at] {
			n.step = impl.Step{Kind: impl.StepCopy, Dst: n.step.Dst, A: variable(keep)}
		}
		if x.Puts[at] {
			itself := &node{step: n.step, next: n.next}
			n.step = impl.Step{Kind: impl.StepSet, Dst: keep, Op: e.Op, A: e.A, B: e.B}
			n.next = []*node{itself}
			nodes = append(nodes, itself)
		}
	}
	return progOfNodes(nodes)
}

// ownPlaces is, of each place of a moved program, which step of the program itself stands there; -1, if none does.
func ownPlaces(x impl.Place) []int {
	own, last := make([]int, len(x.Puts)), []int(nil)
	for at, put := range x.Puts {
		own[at] = at
		if put {
			own[at], last = -1, append(last, at)
		}
	}
	return append(own, last...)
}

// ownPath is the path of a moved program's run without what was put.
func ownPath(x impl.Place, path []int) []int {
	own, list := ownPlaces(x), []int(nil)
	for _, at := range path {
		if own[at] >= 0 {
			list = append(list, own[at])
		}
	}
	return list
}

// runMover is a mover whose choices and outs hang on what has to do with the reckoning, and whose first steps mostly let the operands come in.
func (d *dice) runMover(size int, e impl.Expr) impl.Prog {
	p := d.mover(size, e)
	for at := range p.Steps {
		s := &p.Steps[at]
		if s.Kind == impl.StepTest || s.Kind == impl.StepOut {
			s.A = []impl.Opnd{e.A, e.B, variable(idleVar), variable(idleVar + 1)}[d.roll(4)]
		}
	}
	for at, o := range []impl.Opnd{e.A, e.B} {
		if at < size && o.Var != -1 && len(p.Steps[at].Next) == 1 && d.roll(4) > 0 {
			p.Steps[at] = impl.Step{Kind: impl.StepIn, Dst: o.Var, Next: p.Steps[at].Next}
		}
	}
	return p
}

// runMovers hands on many programs of each of these sizes that run on what the reckoning has to do with, and what they are made by tidying.
func runMovers(from, to, times int, yield func(p impl.Prog, e impl.Expr)) {
	d := &dice{state: 71}
	for size := from; size <= to; size++ {
		for range times {
			for _, e := range movables() {
				bothTidy(d.runMover(size, e), e, yield)
			}
		}
	}
}

// tidyMovers hands on programs that are tidy.
func tidyMovers(yield func(p impl.Prog, e impl.Expr)) {
	tidy := func(p impl.Prog, e impl.Expr) {
		if tidyByAsking(p) {
			yield(p, e)
		}
	}
	smallMovers(tidy)
	greatMovers(1, impl.ProgMax, 4, tidy)
	runMovers(1, impl.ProgMax, 2, tidy)
}
