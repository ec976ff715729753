package tests

import (
	"slices"
	"testing"

	"loop.example/causey/impl"
)

// mark is a number that no program of these tests has.
const mark = -77

// roomy is a program with spare room behind all its lists, marked all over.
func roomy(p impl.Prog) impl.Prog {
	q := impl.Prog{Steps: make([]impl.Step, 0, len(p.Steps)+3)}
	for i := range q.Steps[:cap(q.Steps)] {
		q.Steps[:cap(q.Steps)][i] = impl.Step{Kind: mark, Next: []int{mark}}
	}
	for _, s := range p.Steps {
		room := slices.Repeat([]int{mark}, len(s.Next)+3)
		copy(room, s.Next)
		s.Next = room[:len(s.Next)]
		q.Steps = append(q.Steps, s)
	}
	return q
}

// whole is a program with the spare room of all its lists.
func whole(p impl.Prog) impl.Prog {
	q := cloneProg(impl.Prog{Steps: p.Steps[:cap(p.Steps)]})
	for i, s := range p.Steps[:cap(p.Steps)] {
		q.Steps[i].Next = slices.Clone(s.Next[:cap(s.Next)])
	}
	return q
}

func TestNothingIsWrittenIntoAnArgument(t *testing.T) {
	d := &dice{state: 7}
	progs := []impl.Prog{longest(), skips(1), skips(61)}
	for size := 1; size <= impl.ProgMax; size++ {
		progs = append(progs, d.prog(size))
		wrong := d.prog(size)
		wrong.Steps[d.roll(size)].Kind = 9
		progs = append(progs, wrong)
	}
	for _, p := range progs {
		q := roomy(p)
		before := whole(q)
		impl.ProgOk(q)
		impl.ProgWrite(q)
		if !sameProg(whole(q), before) || !sameProg(q, p) {
			t.Fatalf("changed: %v", p)
		}
	}
}

// readNew is the answer of a text that is one.
func readNew(t *testing.T, text string) impl.Prog {
	t.Helper()
	p, ok := impl.ProgRead(text)
	if !ok {
		t.Fatalf("%q is not read", text)
	}
	return p
}

// Each list of an answer, spare room included, is written over; no other list and no other answer may change.
func TestListsOfAnAnswerShareNothing(t *testing.T) {
	d := &dice{state: 8}
	texts := []string{everyText, "end\n", impl.ProgWrite(longest())}
	for size := 1; size <= impl.ProgMax; size++ {
		texts = append(texts, impl.ProgWrite(d.prog(size)))
	}
	for _, text := range texts {
		first := readNew(t, text)
		want := whole(first)
		for i := range first.Steps {
			p := readNew(t, text)
			room := p.Steps[i].Next[:cap(p.Steps[i].Next)]
			for k := range room {
				room[k] = mark
			}
			got := whole(p)
			got.Steps[i] = want.Steps[i]
			if !sameProg(got, want) {
				t.Fatalf("%q: the list of step %d is shared", text, i)
			}
		}
		p := readNew(t, text)
		for i := range p.Steps[:cap(p.Steps)] {
			p.Steps[:cap(p.Steps)][i] = impl.Step{Kind: mark}
		}
		if !sameProg(whole(first), want) || !sameProg(whole(readNew(t, text)), want) {
			t.Fatalf("%q: an answer is shared or kept", text)
		}
	}
}

// What was written stays when the program that it was written from changes.
func TestAWrittenTextStays(t *testing.T) {
	p, ok := impl.ProgRead(everyText)
	if !ok {
		t.Fatal("not read")
	}
	text := impl.ProgWrite(p)
	for i := range p.Steps {
		p.Steps[i] = impl.Step{Kind: impl.StepEnd}
	}
	if text != everyText || impl.ProgWrite(p) == text {
		t.Error("the text changed")
	}
}
