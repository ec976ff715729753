package tests

import (
	"slices"
	"testing"

	"loop.example/causey/impl"
)

// placeArgument is a program, a reckoning, a way of moving and a variable, ok or not.
type placeArgument struct {
	p    impl.Prog
	e    impl.Expr
	x    impl.Place
	keep int
}

func placeArguments() []placeArgument {
	d := &dice{state: 89}
	var list []placeArgument
	runMovers(1, impl.ProgMax, 1, func(p impl.Prog, e impl.Expr) {
		s := sceneOf(p, e)
		keep := append(free(p, e), impl.ProgVars)[0]
		for _, x := range []impl.Place{d.hereAndThere(s), d.anyPlace(s), s.lazy()} {
			list = append(list, placeArgument{p, e, x, keep})
		}
		if len(p.Steps)%10 == 0 {
			list = append(list, placeArgument{p, impl.Expr{}, s.busy(), keep}, placeArgument{p, e, impl.Place{Puts: s.early, Takes: s.early[1:]}, keep})
		}
	})
	for _, p := range wrongProgs() {
		rows := make([]bool, len(p.Steps))
		list = append(list, placeArgument{p, movables()[0], impl.Place{Puts: rows, Takes: slices.Clone(rows)}, 9})
	}
	return list
}

// roomyRow is a row with spare room behind, in which all is so.
func roomyRow(list []bool) []bool {
	room := slices.Repeat([]bool{true}, len(list)+3)
	copy(room, list)
	return room[:len(list)]
}

// roomy has spare room behind all its lists, marked all over.
func (a placeArgument) roomy() placeArgument {
	return placeArgument{roomy(a.p), a.e, impl.Place{Puts: roomyRow(a.x.Puts), Takes: roomyRow(a.x.Takes)}, a.keep}
}

// whole has the spare room of all its lists.
func (a placeArgument) whole() placeArgument {
	return placeArgument{whole(a.p), a.e, impl.Place{Puts: slices.Clone(a.x.Puts[:cap(a.x.Puts)]), Takes: slices.Clone(a.x.Takes[:cap(a.x.Takes)])}, a.keep}
}

func (a placeArgument) same(b placeArgument) bool {
	return sameProg(a.p, b.p) && samePlace(a.x, b.x)
}

// movingTold is all that the six tell.
type movingTold struct {
	ok, done bool
	ways     [3]impl.Place
	live     []bool
	moved    impl.Prog
}

func (a placeArgument) told() movingTold {
	r := movingTold{ok: impl.PlaceOk(a.p, a.e, a.x), live: impl.PlaceLive(a.p, a.e, a.x)}
	r.ways = [3]impl.Place{impl.PlaceNone(a.p, a.e), impl.PlaceBusy(a.p, a.e), impl.PlaceLazy(a.p, a.e)}
	r.moved, r.done = impl.PlaceDo(a.p, a.e, a.x, a.keep)
	return r
}

// rows are all lists of yes and no.
func (r movingTold) rows() [][]bool {
	list := [][]bool{r.live}
	for _, x := range r.ways {
		list = append(list, x.Puts, x.Takes)
	}
	return list
}

func (r movingTold) same(s movingTold) bool {
	return r.ok == s.ok && r.done == s.done && sameLists(r.rows(), s.rows()) && sameProg(r.moved, s.moved)
}

func (r movingTold) clone() movingTold {
	c := movingTold{ok: r.ok, done: r.done, live: slices.Clone(r.live), moved: cloneProg(r.moved)}
	for i, x := range r.ways {
		c.ways[i] = clonePlace(x)
	}
	return c
}

// spoil writes over all lists, spare room included.
func (r movingTold) spoil() {
	for _, list := range r.rows() {
		turnedOver(list, notBool)
	}
	spoilProg(r.moved)
}

func spoilProg(p impl.Prog) {
	turnedOver(p.Steps, func(s impl.Step) impl.Step {
		turnedOver(s.Next, notInt)
		return impl.Step{Kind: mark, Op: mark, A: num(mark), B: num(mark)}
	})
}

func TestMovingWritesIntoNoArgument(t *testing.T) {
	done := 0
	for _, a := range placeArguments() {
		b := a.roomy()
		before := b.whole()
		if b.told().done {
			done++
		}
		if !b.whole().same(before) || !b.same(a) {
			t.Fatalf("changed: %v", a)
		}
	}
	if done < 100 {
		t.Errorf("only %d moved", done)
	}
}

func TestListsOfMovingShareNothing(t *testing.T) {
	for _, a := range placeArguments() {
		b := a.roomy()
		r, s := b.told(), b.told()
		rows := append(append(r.rows(), s.rows()...), b.x.Puts, b.x.Takes)
		checkApart(t, rows, notBool)
		checkApart(t, append(append(nexts(r.moved), nexts(s.moved)...), nexts(b.p)...), notInt)
	}
}

// An answer that is written over changes neither the argument nor the next answer, and it stays when the argument changes.
func TestNoAnswerOfMovingIsKept(t *testing.T) {
	for _, a := range placeArguments() {
		b := a.roomy()
		before := b.whole()
		r := b.told()
		want := r.clone()
		r.spoil()
		if !b.whole().same(before) {
			t.Fatalf("%v: changed", a)
		}
		r = b.told()
		if !r.same(want) {
			t.Fatalf("%v: kept", a)
		}
		turnedOver(b.x.Puts, notBool)
		turnedOver(b.x.Takes, notBool)
		spoilProg(b.p)
		if !r.same(want) {
			t.Fatalf("%v: an answer changed", a)
		}
	}
}

// Puts and Takes that are one list are read, and not written, too.
func TestPutsAndTakesMayBeOneList(t *testing.T) {
	p, e := told(t, "v2 = v0 + v1 1\nv3 = v0 + v1 2\nend\n"), exprTold(t, "v0 + v1")
	list := []bool{true, true, false}
	q, ok := impl.PlaceDo(p, e, impl.Place{Puts: list, Takes: list}, 4)
	if want := "v4 = v0 + v1 3\nv4 = v0 + v1 4\nend\nv2 = v4 1\nv3 = v4 2\n"; !ok || impl.ProgWrite(q) != want || row(list) != "110" {
		t.Errorf("%v %q %s", ok, impl.ProgWrite(q), row(list))
	}
}

// Calls do not know of each other: done in any order each is as it was alone.
func TestMovingDoesNotKnowOfOthers(t *testing.T) {
	arguments := placeArguments()
	var alone []movingTold
	for _, a := range arguments {
		alone = append(alone, a.told())
	}
	for i, a := range slices.Backward(arguments) {
		if r := a.told(); !r.same(alone[i]) {
			t.Fatalf("%v: %v, not %v", a, r, alone[i])
		}
	}
}
