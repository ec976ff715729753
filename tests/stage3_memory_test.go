package tests

import (
	"slices"
	"testing"

	"loop.example/causey/impl"
)

// runArgument is what a run is given.
type runArgument struct {
	p    impl.Prog
	in   []int
	most int
}

// roomyList is a list with marked room behind it.
func roomyList(list []int) []int {
	room := slices.Repeat([]int{mark}, len(list)+4)
	copy(room, list)
	return room[:len(list)]
}

// runArguments are such that run, and such that do not, with spare room in all lists.
func runArguments() []runArgument {
	d := &dice{state: 39}
	var list []runArgument
	add := func(p impl.Prog, in []int, most int) {
		list = append(list, runArgument{p: roomy(p), in: roomyList(in), most: most})
	}
	for _, p := range wrongProgs() {
		add(p, d.input(), impl.RunMax)
	}
	for size := 1; size <= impl.ProgMax; size++ {
		for range 6 {
			p := d.runner(size)
			for _, most := range []int{-1, 0, 1, d.roll(50), impl.RunMax, impl.RunMax + 1} {
				add(p, d.input(), most)
			}
			add(p, []int{1, 2, impl.ProgNum}, impl.RunMax)
			add(p, []int{-1}, 0)
		}
	}
	// What is let out is just what comes in, and as much: nothing else shows whether memory is shared.
	through, _ := readByForms("v0 = in 1\nout v0 0\n")
	add(through, []int{4, 5, 6, 7}, impl.RunMax)
	add(through, nil, impl.RunMax)
	return list
}

func roomOf(list []int) []int {
	return slices.Clone(list[:cap(list)])
}

func TestRunsWriteIntoNoArgument(t *testing.T) {
	for _, a := range runArguments() {
		steps, in := whole(a.p), roomOf(a.in)
		impl.RunOf(a.p, a.in, a.most)
		if !sameProg(whole(a.p), steps) || !slices.Equal(roomOf(a.in), in) {
			t.Fatalf("%v: changed", a)
		}
	}
}

func TestListsOfARunShareNothing(t *testing.T) {
	for _, a := range runArguments() {
		r, s := impl.RunOf(a.p, a.in, a.most), impl.RunOf(a.p, a.in, a.most)
		checkApart(t, append(nexts(a.p), r.Outs, r.Path, s.Outs, s.Path, a.in), notInt)
	}
}

// An answer that is written over changes neither an argument nor the next answer, and it stays when the arguments change.
func TestNoRunIsKept(t *testing.T) {
	for _, a := range runArguments() {
		steps, in := whole(a.p), roomOf(a.in)
		first := impl.RunOf(a.p, a.in, a.most)
		want := impl.Result{Code: first.Code, Outs: slices.Clone(first.Outs), Path: slices.Clone(first.Path)}
		turnedOver(first.Outs, notInt)
		turnedOver(first.Path, notInt)
		if !sameProg(whole(a.p), steps) || !slices.Equal(roomOf(a.in), in) {
			t.Fatalf("%v: changed", a)
		}
		second := impl.RunOf(a.p, a.in, a.most)
		if !sameResult(second, want) {
			t.Fatalf("%v: kept: %v, not %v", a, second, want)
		}
		turnedOver(a.in, notInt)
		turnedOver(a.p.Steps, func(s impl.Step) impl.Step {
			turnedOver(s.Next, notInt)
			s.Kind = mark
			return s
		})
		if !sameResult(second, want) {
			t.Fatalf("%v: an answer changed", a)
		}
	}
}

// Runs do not know of each other: done in any order, and among others, each is as it was alone.
func TestRunsDoNotKnowOfEachOther(t *testing.T) {
	var alone []impl.Result
	arguments := runArguments()
	for _, a := range arguments {
		alone = append(alone, impl.RunOf(a.p, a.in, a.most))
	}
	for i, a := range slices.Backward(arguments) {
		if r := impl.RunOf(a.p, a.in, a.most); !sameResult(r, alone[i]) {
			t.Fatalf("%v: %v, not %v", a, r, alone[i])
		}
	}
}
