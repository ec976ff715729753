package tests

import (
	"slices"
	"testing"

	"loop.example/causey/impl"
)

// flowArguments are programs that are ok, and such that are not.
func flowArguments() []impl.Prog {
	d := &dice{state: 23}
	list := wrongProgs()
	for size := 1; size <= impl.ProgMax; size++ {
		list = append(list, d.flow(size), d.flow(size), d.prog(size))
	}
	tidy := chain(19, 2, impl.Step{Kind: impl.StepEnd})
	list = append(list, tidy, tidyByNodes(tidy), skips(1))
	return append(list, impl.Prog{Steps: []impl.Step{{Kind: impl.StepEnd, Next: []int{}}}})
}

func TestWaysWriteIntoNoArgument(t *testing.T) {
	for _, p := range flowArguments() {
		q := roomy(p)
		before := whole(q)
		impl.FlowReach(q)
		impl.FlowPreds(q)
		impl.FlowDoms(q)
		impl.FlowTidy(q)
		impl.FlowIsTidy(q)
		if !sameProg(whole(q), before) || !sameProg(q, p) {
			t.Fatalf("changed: %v", p)
		}
	}
}

// turnedOver writes another value over all of a list, spare room included; turned over twice it is as it was.
func turnedOver[T any](list []T, other func(T) T) {
	room := list[:cap(list)]
	for i := range room {
		room[i] = other(room[i])
	}
}

func notBool(x bool) bool { return !x }

func notInt(x int) int { return ^x }

// checkApart: none of the lists shares memory with another one.
func checkApart[T comparable](t *testing.T, lists [][]T, other func(T) T) {
	t.Helper()
	rooms := make([][]T, len(lists))
	for i, list := range lists {
		rooms[i] = list[:cap(list)]
	}
	before := make([][]T, len(lists))
	for i := range rooms {
		before[i] = slices.Clone(rooms[i])
	}
	for i := range rooms {
		turnedOver(rooms[i], other)
		for k := range rooms {
			if k != i && !slices.Equal(rooms[k], before[k]) {
				t.Fatalf("lists %d and %d share memory: %v", i, k, lists)
			}
		}
		turnedOver(rooms[i], other)
	}
}

// nexts are the lists of the steps of a program.
func nexts(p impl.Prog) [][]int {
	var lists [][]int
	for _, s := range p.Steps {
		lists = append(lists, s.Next)
	}
	return lists
}

func TestListsOfWaysShareNothing(t *testing.T) {
	for _, p := range flowArguments() {
		q := roomy(p)
		tidy, _ := impl.FlowTidy(q)
		checkApart(t, impl.FlowPreds(q), notInt)
		checkApart(t, impl.FlowDoms(q), notBool)
		checkApart(t, append(nexts(tidy), nexts(q)...), notInt)
		again, _ := impl.FlowTidy(q)
		checkApart(t, append(nexts(tidy), nexts(again)...), notInt)
	}
}

// An answer that is written over changes neither the argument nor the next answer.
func TestNoAnswerOfWaysIsKept(t *testing.T) {
	for _, p := range flowArguments() {
		q := roomy(p)
		before := whole(q)
		turnedOver(impl.FlowReach(q), notBool)
		preds, doms := impl.FlowPreds(q), impl.FlowDoms(q)
		for i := range preds {
			turnedOver(preds[i], notInt)
			turnedOver(doms[i], notBool)
		}
		tidy, ok := impl.FlowTidy(q)
		want := cloneProg(tidy)
		for i := range tidy.Steps {
			turnedOver(tidy.Steps[i].Next, notInt)
		}
		turnedOver(tidy.Steps, func(impl.Step) impl.Step { return impl.Step{Kind: mark} })
		if !sameProg(whole(q), before) {
			t.Fatalf("%v: changed", p)
		}
		if again, fine := impl.FlowTidy(q); fine != ok || !sameProg(again, want) {
			t.Fatalf("%v: kept", p)
		}
		if okByTable(p) && (!sameLists(impl.FlowPreds(q), predsByAsking(p)) || !sameLists(impl.FlowDoms(q), domsByShutting(p)) || !slices.Equal(impl.FlowReach(q), reachWithout(p, -1))) {
			t.Fatalf("%v: kept", p)
		}
	}
}

// An answer stays when the argument changes.
func TestATidyProgramStays(t *testing.T) {
	for _, p := range flowArguments() {
		q := roomy(p)
		tidy, _ := impl.FlowTidy(q)
		preds, doms, reach := impl.FlowPreds(q), impl.FlowDoms(q), impl.FlowReach(q)
		want := cloneProg(tidy)
		turnedOver(q.Steps, func(s impl.Step) impl.Step {
			turnedOver(s.Next, notInt)
			s.Kind = mark
			return s
		})
		if !sameProg(tidy, want) {
			t.Fatalf("%v: the tidied program changed", p)
		}
		if okByTable(p) && (!sameLists(preds, predsByAsking(p)) || !sameLists(doms, domsByShutting(p)) || !slices.Equal(reach, reachWithout(p, -1))) {
			t.Fatalf("%v: an answer changed", p)
		}
	}
}
