package tests

import (
	"slices"
	"testing"

	"loop.example/causey/impl"
)

// safeArgument is a program and a reckoning, ok or not.
type safeArgument struct {
	p impl.Prog
	e impl.Expr
}

func safeArguments() []safeArgument {
	var list []safeArgument
	greatMovers(1, impl.ProgMax, 1, func(p impl.Prog, e impl.Expr) {
		list = append(list, safeArgument{p, e})
		if len(p.Steps)%10 == 0 {
			list = append(list, safeArgument{p, impl.Expr{}}, safeArgument{p, impl.Expr{Op: impl.OpAdd, A: variable(12)}})
		}
	})
	for _, p := range wrongProgs() {
		list = append(list, safeArgument{p, movables()[0]}, safeArgument{p, impl.Expr{}})
	}
	return list
}

func TestWhereItIsSafeWritesIntoNoArgument(t *testing.T) {
	for _, a := range safeArguments() {
		q := roomy(a.p)
		before := whole(q)
		safeOf(q, a.e)
		if !sameProg(whole(q), before) || !sameProg(q, a.p) {
			t.Fatalf("changed: %v, %v", a.p, a.e)
		}
	}
}

func TestListsOfWhereItIsSafeShareNothing(t *testing.T) {
	for _, a := range safeArguments() {
		q := roomy(a.p)
		before := whole(q)
		checkApart(t, append(safeOf(q, a.e).rows(), safeOf(q, a.e).rows()...), notBool)
		if !sameProg(whole(q), before) {
			t.Fatalf("%v, %v: changed", a.p, a.e)
		}
	}
}

// An answer that is written over changes neither the argument nor the next answer, and it stays when the argument changes.
func TestNoAnswerOfWhereItIsSafeIsKept(t *testing.T) {
	for _, a := range safeArguments() {
		q := roomy(a.p)
		before := whole(q)
		for _, list := range safeOf(q, a.e).rows() {
			turnedOver(list, notBool)
		}
		if !sameProg(whole(q), before) {
			t.Fatalf("%v, %v: changed", a.p, a.e)
		}
		if !okByTable(a.p) || !exprOkByTable(a.e) {
			continue
		}
		got := safeOf(q, a.e)
		turnedOver(q.Steps, func(s impl.Step) impl.Step {
			turnedOver(s.Next, notInt)
			return impl.Step{Kind: mark, Op: mark, A: num(mark), B: num(mark)}
		})
		if !sameSafe(got, safeByWays(a.p, a.e)) {
			t.Fatalf("%v, %v: an answer is kept, or changed", a.p, a.e)
		}
	}
}

// Calls do not know of each other: done in any order each is as it was alone.
func TestWhereItIsSafeDoesNotKnowOfOthers(t *testing.T) {
	arguments := safeArguments()
	var alone []safeTold
	for _, a := range arguments {
		alone = append(alone, safeOf(a.p, a.e))
	}
	for i, a := range slices.Backward(arguments) {
		// Another reckoning of the same program between.
		other := movables()[i%len(movables())]
		if other != a.e {
			safeOf(a.p, other)
		}
		if s := safeOf(a.p, a.e); !sameSafe(s, alone[i]) {
			t.Fatalf("%v, %v: %v, not %v", a.p, a.e, s, alone[i])
		}
	}
}
