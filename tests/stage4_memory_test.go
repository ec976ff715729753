package tests

import (
	"slices"
	"testing"

	"loop.example/causey/impl"
)

// loopArguments are programs that are ok, most of them with loops, and such that are not.
func loopArguments() []impl.Prog {
	d := &dice{state: 44}
	list := flowArguments()
	for size := 1; size <= impl.ProgMax; size++ {
		list = append(list, d.loopy(size), d.strewn(d.loopy(size)))
	}
	return list
}

// someHeads are heads for LoopOf, most of them none.
func someHeads(p impl.Prog) []int {
	heads := []int{-1, len(p.Steps), 64}
	for head := range p.Steps {
		heads = append(heads, head)
	}
	return heads
}

func TestLoopsWriteIntoNoArgument(t *testing.T) {
	for _, p := range loopArguments() {
		q := roomy(p)
		before := whole(q)
		impl.LoopOver(q)
		impl.LoopFront(q)
		impl.LoopHeads(q)
		impl.LoopDeep(q)
		for _, head := range someHeads(p) {
			impl.LoopOf(q, head)
		}
		if !sameProg(whole(q), before) || !sameProg(q, p) {
			t.Fatalf("changed: %v", p)
		}
	}
}

func TestListsOfLoopsShareNothing(t *testing.T) {
	for _, p := range loopArguments() {
		q := roomy(p)
		numbers := append(nexts(q), impl.LoopFront(q)...)
		numbers = append(numbers, impl.LoopFront(q)...)
		numbers = append(numbers, impl.LoopOver(q), impl.LoopOver(q), impl.LoopDeep(q), impl.LoopDeep(q))
		checkApart(t, numbers, notInt)
		marks := [][]bool{impl.LoopHeads(q), impl.LoopHeads(q)}
		for _, head := range someHeads(p) {
			marks = append(marks, impl.LoopOf(q, head))
		}
		checkApart(t, marks, notBool)
	}
}

// The rows of an answer stand each in room of its own, not in the room behind another one.
func TestARowOfEndsCanGrow(t *testing.T) {
	for _, p := range loopArguments() {
		front := impl.LoopFront(p)
		want := loopsOf(p).front
		for at := range front {
			_ = append(front[at], mark)
		}
		if !sameLists(front, want) {
			t.Fatalf("%v: rows share room: %v", p, front)
		}
	}
}

// An answer that is written over changes neither the argument nor the next answer, and it stays when the argument changes.
func TestNoAnswerOfLoopsIsKept(t *testing.T) {
	for _, p := range loopArguments() {
		q := roomy(p)
		before := whole(q)
		first := loopsOf(q)
		turnedOver(first.over, notInt)
		turnedOver(first.deep, notInt)
		turnedOver(first.heads, notBool)
		for at := range first.front {
			turnedOver(first.front[at], notInt)
		}
		for at := range first.loops {
			turnedOver(first.loops[at], notBool)
		}
		if !sameProg(whole(q), before) {
			t.Fatalf("%v: changed", p)
		}
		if !okByTable(p) {
			continue
		}
		want, second := loopsByAsking(p), loopsOf(q)
		if !sameLoops(second, want) {
			t.Fatalf("%v: kept: %v, not %v", p, second, want)
		}
		turnedOver(q.Steps, func(s impl.Step) impl.Step {
			turnedOver(s.Next, notInt)
			s.Kind = mark
			return s
		})
		if !sameLoops(second, want) {
			t.Fatalf("%v: an answer changed", p)
		}
	}
}

// Calls do not know of each other: done in any order each is as it was alone.
func TestLoopsDoNotKnowOfEachOther(t *testing.T) {
	var alone []loopsTold
	arguments := loopArguments()
	for _, p := range arguments {
		alone = append(alone, loopsOf(p))
	}
	for i, p := range slices.Backward(arguments) {
		if l := loopsOf(p); !sameLoops(l, alone[i]) {
			t.Fatalf("%v: %v, not %v", p, l, alone[i])
		}
	}
}
