package tests

import (
	"slices"
	"testing"

	"loop.example/causey/impl"
)

// passArgument is a program with names of passes, ok or not.
type passArgument struct {
	p     impl.Prog
	names []string
}

func passArguments(t *testing.T) []passArgument {
	t.Helper()
	d := &dice{state: 146}
	var list []passArgument
	greatWastes(1, impl.ProgMax, 2, func(p impl.Prog) {
		var names []string
		for range d.roll(6) {
			names = append(names, passNames[d.roll(len(passNames))])
		}
		list = append(list, passArgument{p, names}, passArgument{p, append(slices.Clone(names), "what", "skip")})
	})
	for _, p := range wrongProgs() {
		list = append(list, passArgument{p, []string{"fold"}})
	}
	// Programs of which nothing is left out.
	for _, text := range []string{"end\n", "skip 0\n", "test v0 0 1\nend\n", "skip 1\nskip 0\n", "v0 = v0 + 1 0\n"} {
		p := told(t, text)
		list = append(list, passArgument{p, nil}, passArgument{p, passNames}, passArgument{p, make([]string, impl.PassMax+1)})
	}
	return list
}

// roomyNames are names with spare room behind.
func roomyNames(list []string) []string {
	room := slices.Repeat([]string{"fold"}, len(list)+3)
	copy(room, list)
	return room[:len(list)]
}

func (a passArgument) roomy() passArgument {
	return passArgument{roomy(a.p), roomyNames(a.names)}
}

// whole has the spare room of all its lists.
func (a passArgument) whole() passArgument {
	return passArgument{whole(a.p), slices.Clone(a.names[:cap(a.names)])}
}

func (a passArgument) same(b passArgument) bool {
	return sameProg(a.p, b.p) && slices.Equal(a.names, b.names)
}

// liveTold is all that the functions about what is needed, and passes, tell.
type liveTold struct {
	live  [][]bool
	progs []impl.Prog
	oks   []bool
}

func (a passArgument) told() liveTold {
	r := liveTold{live: impl.LiveOf(a.p)}
	r.progs = []impl.Prog{impl.LiveDead(a.p), impl.LiveCopy(a.p), impl.LiveFold(a.p), impl.LiveSkip(a.p)}
	done, ok := impl.PassAll(a.p, a.names)
	r.progs, r.oks = append(r.progs, done), append(r.oks, ok)
	for _, name := range append(slices.Clone(passNames), "what") {
		done, ok := impl.PassDo(a.p, name)
		r.progs, r.oks = append(r.progs, done), append(r.oks, ok)
	}
	return r
}

func (r liveTold) same(s liveTold) bool {
	return sameLists(r.live, s.live) && slices.EqualFunc(r.progs, s.progs, sameProg) && slices.Equal(r.oks, s.oks)
}

func (r liveTold) clone() liveTold {
	c := liveTold{oks: slices.Clone(r.oks)}
	for _, list := range r.live {
		c.live = append(c.live, slices.Clone(list))
	}
	for _, p := range r.progs {
		c.progs = append(c.progs, cloneProg(p))
	}
	return c
}

// spoil writes over all lists, spare room included.
func (r liveTold) spoil() {
	for _, list := range r.live {
		turnedOver(list, notBool)
	}
	turnedOver(r.live, func([]bool) []bool { return nil })
	for _, p := range r.progs {
		spoilProg(p)
	}
}

func TestWhatIsNeededWritesIntoNoArgument(t *testing.T) {
	for _, a := range passArguments(t) {
		b := a.roomy()
		before := b.whole()
		b.told()
		if !b.whole().same(before) || !b.same(a) {
			t.Fatalf("changed: %v", a)
		}
	}
}

func TestListsOfWhatIsNeededShareNothing(t *testing.T) {
	for _, a := range passArguments(t) {
		if len(a.p.Steps) > 25 && len(a.p.Steps)%7 > 0 {
			continue
		}
		b := a.roomy()
		r, s := b.told(), b.told()
		checkApart(t, append(r.live, s.live...), notBool)
		// Of each answer by itself, and of each with the argument and the same answer again.
		for i, p := range r.progs {
			checkApart(t, append(append(nexts(p), nexts(s.progs[i])...), nexts(b.p)...), notInt)
		}
	}
}

// The lists of steps of all answers, and of the argument, are apart.
func TestStepsOfPassesShareNothing(t *testing.T) {
	for _, a := range passArguments(t) {
		b := a.roomy()
		r := b.told()
		progs := append(slices.Clone(r.progs), b.p)
		want := r.clone().progs
		before := b.whole().p
		for i, p := range progs {
			turnedOver(p.Steps, func(s impl.Step) impl.Step {
				s.Op = ^s.Op
				return s
			})
			for k, other := range r.progs {
				if k != i && !sameProg(other, want[k]) {
					t.Fatalf("%v: %d and %d share memory", a, i, k)
				}
			}
			if i < len(r.progs) && !sameProg(whole(b.p), before) {
				t.Fatalf("%v: %d and the argument share memory", a, i)
			}
			turnedOver(p.Steps, func(s impl.Step) impl.Step {
				s.Op = ^s.Op
				return s
			})
		}
	}
}

// An answer that is written over changes neither the argument nor the next answer, and it stays when the argument changes.
func TestNoAnswerOfWhatIsNeededIsKept(t *testing.T) {
	for _, a := range passArguments(t) {
		b := a.roomy()
		before := b.whole()
		r := b.told()
		want := r.clone()
		r.spoil()
		if !b.whole().same(before) {
			t.Fatalf("%v: changed", a)
		}
		r = b.told()
		if !r.same(want) {
			t.Fatalf("%v: kept", a)
		}
		turnedOver(b.names, func(string) string { return "what" })
		spoilProg(b.p)
		if !r.same(want) {
			t.Fatalf("%v: an answer changed", a)
		}
	}
}

// Calls do not know of each other: done in any order each is as it was alone.
func TestPassesDoNotKnowOfEachOther(t *testing.T) {
	arguments := passArguments(t)
	var alone []liveTold
	for _, a := range arguments {
		alone = append(alone, a.told())
	}
	for i, a := range slices.Backward(arguments) {
		if r := a.told(); !r.same(alone[i]) {
			t.Fatalf("%v: told otherwise", a)
		}
	}
}
