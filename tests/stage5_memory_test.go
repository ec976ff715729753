package tests

import (
	"slices"
	"testing"

	"loop.example/causey/impl"
)

// exprArguments are programs that are ok, most of which reckon the same more than once, and such that are not.
func exprArguments() []impl.Prog {
	d := &dice{state: 55}
	list := append(wrongReckoners(), skips(1), longest(), differing(impl.ProgMax))
	for size := 1; size <= impl.ProgMax; size++ {
		list = append(list, d.alike(size), d.prog(size), differing(size))
	}
	return list
}

// someAsked are reckonings to ask a program for, ok or not.
func someAsked(p impl.Prog) []impl.Expr {
	list := []impl.Expr{{}, {Op: impl.OpAdd}, {Op: impl.OpAdd, A: variable(12)}}
	for at, s := range p.Steps {
		if at%5 == 0 {
			list = append(list, impl.Expr{Op: s.Op, A: s.A, B: s.B})
		}
	}
	return list
}

func TestReckoningsWriteIntoNoArgument(t *testing.T) {
	for _, p := range exprArguments() {
		q := roomy(p)
		before := whole(q)
		impl.ExprList(q)
		for _, e := range someAsked(p) {
			impl.ExprOk(e)
			impl.ExprComp(q, e)
			impl.ExprKeeps(q, e)
		}
		if !sameProg(whole(q), before) || !sameProg(q, p) {
			t.Fatalf("changed: %v", p)
		}
	}
}

func otherExpr(e impl.Expr) impl.Expr {
	return impl.Expr{Op: ^e.Op, A: impl.Opnd{Var: ^e.A.Var, Num: ^e.A.Num}, B: impl.Opnd{Var: ^e.B.Var, Num: ^e.B.Num}}
}

func TestListsOfReckoningsShareNothing(t *testing.T) {
	for _, p := range exprArguments() {
		q := roomy(p)
		before := whole(q)
		checkApart(t, [][]impl.Expr{impl.ExprList(q), impl.ExprList(q), impl.ExprList(q)}, otherExpr)
		var marks [][]bool
		for _, e := range someAsked(p) {
			marks = append(marks, impl.ExprComp(q, e), impl.ExprKeeps(q, e), impl.ExprComp(q, e), impl.ExprKeeps(q, e))
		}
		checkApart(t, marks, notBool)
		if !sameProg(whole(q), before) {
			t.Fatalf("%v: changed", p)
		}
	}
}

// An answer that is written over changes neither the argument nor the next answer, and it stays when the argument changes.
func TestNoAnswerOfReckoningsIsKept(t *testing.T) {
	for _, p := range exprArguments() {
		q := roomy(p)
		before := whole(q)
		turnedOver(impl.ExprList(q), otherExpr)
		for _, e := range someAsked(p) {
			turnedOver(impl.ExprComp(q, e), notBool)
			turnedOver(impl.ExprKeeps(q, e), notBool)
		}
		if !sameProg(whole(q), before) {
			t.Fatalf("%v: changed", p)
		}
		if !okByTable(p) {
			continue
		}
		list := impl.ExprList(q)
		e := impl.Expr{Op: impl.OpSub, A: variable(1), B: variable(0)}
		comp, keeps := impl.ExprComp(q, e), impl.ExprKeeps(q, e)
		turnedOver(q.Steps, func(s impl.Step) impl.Step {
			turnedOver(s.Next, notInt)
			return impl.Step{Kind: mark, Op: mark, A: num(mark), B: num(mark)}
		})
		if !slices.Equal(exprsSaid(list), listByWords(p)) || !slices.Equal(comp, compByWords(p, e)) || !slices.Equal(keeps, keepsByWords(p, e)) {
			t.Fatalf("%v: an answer is kept, or changed", p)
		}
	}
}

// Calls do not know of each other: done in any order each is as it was alone.
func TestReckoningsDoNotKnowOfEachOther(t *testing.T) {
	arguments := exprArguments()
	var lists [][]impl.Expr
	var comps, keeps [][]bool
	e := impl.Expr{Op: impl.OpAdd, A: variable(0), B: variable(1)}
	for _, p := range arguments {
		lists = append(lists, impl.ExprList(p))
		comps = append(comps, impl.ExprComp(p, e))
		keeps = append(keeps, impl.ExprKeeps(p, e))
	}
	for i, p := range slices.Backward(arguments) {
		if !slices.Equal(impl.ExprKeeps(p, e), keeps[i]) || !slices.Equal(impl.ExprComp(p, e), comps[i]) || !slices.Equal(impl.ExprList(p), lists[i]) {
			t.Fatalf("%v: told otherwise", p)
		}
	}
}
