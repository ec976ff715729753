package tests

import (
	"slices"
	"strings"
	"testing"

	"loop.example/causey/impl"
)

// moveArguments are programs with names of passes, ok or not, of which much is moved, little, or nothing.
func moveArguments(t *testing.T) []passArgument {
	t.Helper()
	d := &dice{state: 181}
	var list []passArgument
	manySeverals(1, impl.ProgMax, 1, func(p impl.Prog) {
		list = append(list, passArgument{p, append(d.somePasses(4), "move")})
	})
	for _, p := range wrongProgs() {
		list = append(list, passArgument{p, []string{"move"}})
	}
	// Tidy programs of which nothing is moved, and one that has no room to be tidy.
	for _, p := range []impl.Prog{told(t, "end\n"), told(t, "v0 = v1 + v2 1\nend\n"), chain(0, 5, impl.Step{Kind: impl.StepEnd}), told(t, twelve(0, "v0 = 1 + 2", "v0 = 1 + 2")), chain(20, 3, impl.Step{Kind: impl.StepEnd})} {
		list = append(list, passArgument{p, []string{"move"}}, passArgument{p, nil}, passArgument{p, []string{"move", "what"}})
	}
	return list
}

// movesTold is all that PassMove tells, and what the other two tell of the pass of its name.
func (a passArgument) movesTold() liveTold {
	var r liveTold
	add := func(p impl.Prog, ok bool) {
		r.progs, r.oks = append(r.progs, p), append(r.oks, ok)
	}
	add(impl.PassMove(a.p))
	add(impl.PassDo(a.p, "move"))
	add(impl.PassAll(a.p, a.names))
	add(impl.PassAll(a.p, []string{"move", "move", "skip"}))
	return r
}

func TestPassesThatMoveWriteIntoNoArgument(t *testing.T) {
	for _, a := range moveArguments(t) {
		b := a.roomy()
		before := b.whole()
		b.movesTold()
		if !b.whole().same(before) || !b.same(a) {
			t.Fatalf("changed: %v", a)
		}
	}
}

func TestListsOfPassesThatMoveShareNothing(t *testing.T) {
	for _, a := range moveArguments(t) {
		b := a.roomy()
		r, s := b.movesTold(), b.movesTold()
		lists := nexts(b.p)
		for i := range r.progs {
			lists = append(append(lists, nexts(r.progs[i])...), nexts(s.progs[i])...)
		}
		if len(lists) < 300 {
			checkApart(t, lists, notInt)
		}
		for i, p := range r.progs {
			checkApart(t, append(append(nexts(p), nexts(s.progs[i])...), nexts(b.p)...), notInt)
			checkStepsApart(t, p, append(slices.Concat(r.progs[:i], r.progs[i+1:], s.progs), b.p))
		}
	}
}

// checkStepsApart: the steps of a program, spare room included, are none of another's.
func checkStepsApart(t *testing.T, p impl.Prog, others []impl.Prog) {
	t.Helper()
	otherOp := func(s impl.Step) impl.Step {
		s.Op = ^s.Op
		return s
	}
	var before []impl.Prog
	for _, other := range others {
		before = append(before, whole(other))
	}
	turnedOver(p.Steps, otherOp)
	for i, other := range others {
		if !sameProg(whole(other), before[i]) {
			t.Fatalf("%v shares memory with %v", p, other)
		}
	}
	turnedOver(p.Steps, otherOp)
}

// An answer that is written over changes neither the argument nor the next answer, and it stays when the argument changes.
func TestNoAnswerOfPassesThatMoveIsKept(t *testing.T) {
	for _, a := range moveArguments(t) {
		b := a.roomy()
		before := b.whole()
		r := b.movesTold()
		want := r.clone()
		r.spoil()
		if !b.whole().same(before) {
			t.Fatalf("%v: changed", a)
		}
		r = b.movesTold()
		if !r.same(want) {
			t.Fatalf("%v: kept", a)
		}
		turnedOver(b.names, func(string) string { return "what" })
		spoilProg(b.p)
		if !r.same(want) {
			t.Fatalf("%v: an answer changed", a)
		}
	}
}

// Calls do not know of each other: done in any order each is as it was alone.
func TestPassesThatMoveDoNotKnowOfEachOther(t *testing.T) {
	arguments := moveArguments(t)
	texts := make([]string, len(arguments))
	var alone []liveTold
	var said []string
	for i, a := range arguments {
		texts[i] = strings.Join(a.names, " ") + "\n" + impl.ProgWrite(a.p)
		alone, said = append(alone, a.movesTold()), append(said, impl.PassText(texts[i]))
	}
	for i, a := range slices.Backward(arguments) {
		if r := a.movesTold(); !r.same(alone[i]) || impl.PassText(texts[i]) != said[i] {
			t.Fatalf("%v: told otherwise", a)
		}
	}
}
