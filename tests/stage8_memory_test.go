package tests

import (
	"slices"
	"testing"

	"loop.example/causey/impl"
)

// pathArgument is what the four about paths are given, ok or not.
type pathArgument struct {
	placeArgument
	path    []int
	choices []bool
}

func pathArguments(t *testing.T) []pathArgument {
	t.Helper()
	d := &dice{state: 109}
	var list []pathArgument
	for _, a := range placeArguments() {
		if !okByTable(a.p) {
			list = append(list, pathArgument{a, []int{0}, []bool{true}})
			continue
		}
		path := d.wander(a.p, d.roll(150))
		list = append(list, pathArgument{a, path, nil})
		if len(path) > 0 {
			list = append(list, pathArgument{a, path, choicesOf(a.p, path)}, pathArgument{a, d.nearlyPaths(a.p, path)[d.roll(8)], []bool{true, false, true}})
		}
	}
	// A step alone, and such as have one way each: what is told is just what their lists have.
	for _, text := range []string{"end\n", "skip 1\nend\n", "test v0 1 1\nend\n"} {
		p := told(t, text)
		x := impl.Place{Puts: make([]bool, len(p.Steps)), Takes: make([]bool, len(p.Steps))}
		path, _ := pathByNodes(p, nil, 9)
		list = append(list, pathArgument{placeArgument{p, movables()[0], x, 5}, path, nil})
	}
	return list
}

// roomy has spare room behind all its lists, marked all over.
func (a pathArgument) roomy() pathArgument {
	return pathArgument{a.placeArgument.roomy(), roomyList(a.path), roomyRow(a.choices)}
}

// whole has the spare room of all its lists.
func (a pathArgument) whole() pathArgument {
	return pathArgument{a.placeArgument.whole(), roomOf(a.path), slices.Clone(a.choices[:cap(a.choices)])}
}

func (a pathArgument) same(b pathArgument) bool {
	return a.placeArgument.same(b.placeArgument) && slices.Equal(a.path, b.path) && slices.Equal(a.choices, b.choices)
}

// pathsTold is all that the four tell.
type pathsTold struct {
	ok, done    bool
	count, best int
	path        []int
}

func (a pathArgument) told() pathsTold {
	r := pathsTold{ok: impl.PathOk(a.p, a.path), count: impl.PathCount(a.p, a.e, a.x, a.path), best: impl.PathBest(a.p, a.e, a.path)}
	r.path, r.done = impl.PathOf(a.p, a.choices)
	return r
}

func (r pathsTold) same(s pathsTold) bool {
	return r.ok == s.ok && r.done == s.done && r.count == s.count && r.best == s.best && slices.Equal(r.path, s.path)
}

func TestPathsWriteIntoNoArgument(t *testing.T) {
	ok, done := 0, 0
	for _, a := range pathArguments(t) {
		b := a.roomy()
		before := b.whole()
		r := b.told()
		if !b.whole().same(before) || !b.same(a) {
			t.Fatalf("changed: %v", a)
		}
		if r.ok && r.count >= 0 {
			ok++
		}
		if r.done {
			done++
		}
	}
	atLeast(t, 100, ok, done)
}

func TestPathsShareNothing(t *testing.T) {
	for _, a := range pathArguments(t) {
		b := a.roomy()
		r, s := b.told(), b.told()
		checkApart(t, append(nexts(b.p), b.path, r.path, s.path), notInt)
	}
}

// A path that is written over changes neither the argument nor the next answer, and it stays when the argument changes.
func TestNoPathIsKept(t *testing.T) {
	for _, a := range pathArguments(t) {
		b := a.roomy()
		before := b.whole()
		r := b.told()
		want := r
		want.path = slices.Clone(r.path)
		turnedOver(r.path, notInt)
		if !b.whole().same(before) {
			t.Fatalf("%v: changed", a)
		}
		r = b.told()
		if !r.same(want) {
			t.Fatalf("%v: kept", a)
		}
		turnedOver(b.x.Puts, notBool)
		turnedOver(b.x.Takes, notBool)
		turnedOver(b.path, notInt)
		turnedOver(b.choices, notBool)
		spoilProg(b.p)
		if !r.same(want) {
			t.Fatalf("%v: an answer changed", a)
		}
	}
}

// What PathOf tells may be handed in again, and grow.
func TestAPathCanGrow(t *testing.T) {
	p := told(t, "test v0 0 1\nend\n")
	path, _ := impl.PathOf(p, []bool{false, false, true})
	other, _ := impl.PathOf(p, []bool{false, false, true})
	grown := append(path, 0, 0, 0)
	if !impl.PathOk(p, path) || impl.PathOk(p, grown) || !slices.Equal(other, []int{0, 0, 0, 1}) || !impl.PathOk(p, other) {
		t.Error(path, grown, other)
	}
}

// Puts and Takes may be one list, and choices be used again.
func TestListsOfPathsMayBeOne(t *testing.T) {
	p, e := told(t, twiceText), movables()[0]
	list := []bool{true, true, false, true, false, false, true}
	path, ok := impl.PathOf(p, list)
	if got := impl.PathCount(p, e, impl.Place{Puts: list, Takes: list}, path); !ok || pathSaid(path) != "0 2 3 5 6" || got != 3 || row(list) != "1101001" {
		t.Error(path, got, row(list))
	}
}

// Calls do not know of each other: done in any order each is as it was alone.
func TestPathsDoNotKnowOfEachOther(t *testing.T) {
	arguments := pathArguments(t)
	var alone []pathsTold
	for _, a := range arguments {
		alone = append(alone, a.told())
	}
	for i, a := range slices.Backward(arguments) {
		if r := a.told(); !r.same(alone[i]) {
			t.Fatalf("%v: %v, not %v", a, r, alone[i])
		}
	}
}
