package tests

import (
	"slices"
	"strings"
	"testing"

	"loop.example/causey/impl"
)

// passByName is a pass as chapter 22 names it, by the functions that it names; false, if it cannot be done.
func passByName(p impl.Prog, name string) (impl.Prog, bool) {
	if name == "tidy" {
		if q, ok := impl.FlowTidy(p); ok {
			return q, true
		}
		return p, false
	}
	if pass, ok := livePasses()[name]; ok {
		return pass(p), true
	}
	return p, false
}

// passNames are the names of the passes of these tests.
var passNames = []string{"tidy", "dead", "copy", "fold", "skip"}

// noNames are such as name no pass, most of them nearly.
var noNames = []string{"", " ", "Dead", "DEAD", "dea", "deadd", "dead ", " dead", "dead\n", "dead\x00", "dead copy", "tidi", "TIDY", "fold,skip", "skips", "none", "LiveDead", "cop\xff", "сору", "-", "0", strings.Repeat("dead", 1000)}

func checkDone(t *testing.T, p impl.Prog, names []string, got impl.Prog, ok bool) {
	t.Helper()
	want, fine := p, true
	for _, name := range names {
		if want, fine = passByName(want, name); !fine {
			break
		}
	}
	if ok != fine || !sameProg(got, want) {
		t.Fatalf("%q, %q: %v %q, not %v %q", impl.ProgWrite(p), names, ok, impl.ProgWrite(got), fine, impl.ProgWrite(want))
	}
}

func TestPassesByHand(t *testing.T) {
	p := told(t, "v0 = in 1\nv1 = v0 2\nv2 = v1 + 1 3\nv3 = 2 * 3 4\ntest v3 5 6\nout v2 6\nend\n")
	for _, c := range []struct {
		names string
		want  string
	}{
		{"dead", "v0 = in 1\nv1 = v0 2\nv2 = v1 + 1 3\nv3 = 2 * 3 4\ntest v3 5 6\nout v2 6\nend\n"},
		{"copy", "v0 = in 1\nv1 = v0 2\nv2 = v0 + 1 3\nv3 = 2 * 3 4\ntest v3 5 6\nout v2 6\nend\n"},
		{"copy dead", "v0 = in 1\nskip 2\nv2 = v0 + 1 3\nv3 = 2 * 3 4\ntest v3 5 6\nout v2 6\nend\n"},
		{"copy dead skip", "v0 = in 1\nv2 = v0 + 1 2\nv3 = 2 * 3 3\ntest v3 4 5\nout v2 5\nend\n"},
		{"fold", "v0 = in 1\nv1 = v0 2\nv2 = v1 + 1 3\nv3 = 6 4\ntest v3 5 6\nout v2 6\nend\n"},
		{"fold copy fold", "v0 = in 1\nv1 = v0 2\nv2 = v0 + 1 3\nv3 = 6 4\nskip 5\nout v2 6\nend\n"},
		{"tidy", "v0 = in 1\nv1 = v0 2\nv2 = v1 + 1 3\nv3 = 2 * 3 4\ntest v3 5 7\nout v2 8\nend\nskip 6\nskip 6\n"},
		{"tidy skip", "v0 = in 1\nv1 = v0 2\nv2 = v1 + 1 3\nv3 = 2 * 3 4\ntest v3 5 6\nout v2 6\nend\n"},
		{"copy dead fold copy fold dead skip", "v0 = in 1\nv2 = v0 + 1 2\nout v2 3\nend\n"},
	} {
		names := strings.Fields(c.names)
		q, ok := impl.PassAll(p, names)
		if got := impl.ProgWrite(q); !ok || got != c.want {
			t.Errorf("%s: %v %q", c.names, ok, got)
		}
		if len(names) == 1 {
			q, ok := impl.PassDo(p, names[0])
			if got := impl.ProgWrite(q); !ok || got != c.want {
				t.Errorf("PassDo %s: %v %q", c.names, ok, got)
			}
		}
	}
}

// Each pass is what its function makes, of each program.
func TestEachPassIsItsFunction(t *testing.T) {
	refused, done := 0, 0
	check := func(p impl.Prog) {
		for _, name := range passNames {
			q, ok := impl.PassDo(p, name)
			checkDone(t, p, []string{name}, q, ok)
			if ok {
				done++
			} else {
				refused++
			}
		}
	}
	greatWastes(1, impl.ProgMax, 4, check)
	d := &dice{state: 132}
	for size := 1; size <= impl.ProgMax; size++ {
		check(d.prog(size))
		check(d.loopy(size))
	}
	atLeast(t, 30, refused, done)
}

// What is no name leaves the program as it is, and says so.
func TestNamesThatAreNone(t *testing.T) {
	d := &dice{state: 133}
	for size := 1; size <= impl.ProgMax; size++ {
		p := d.wasteful(size)
		for _, name := range noNames {
			if q, ok := impl.PassDo(p, name); ok || !sameProg(p, q) {
				t.Fatalf("%q, %q: %v %q", impl.ProgWrite(p), name, ok, impl.ProgWrite(q))
			}
			for _, names := range [][]string{{name}, {name, "fold"}, {"copy", name, "dead"}, {"fold", "skip", name}} {
				q, ok := impl.PassAll(p, names)
				if ok {
					t.Fatalf("%q, %q: done", impl.ProgWrite(p), names)
				}
				checkDone(t, p, names, q, ok)
			}
		}
	}
}

// Passes of any names, as many as there may be, one behind the other; with one more nothing.
func TestPassesOneBehindTheOther(t *testing.T) {
	d := &dice{state: 134}
	done, cut := 0, 0
	greatWastes(1, impl.ProgMax, 6, func(p impl.Prog) {
		var names []string
		for range d.roll(impl.PassMax + 1) {
			name := passNames[d.roll(len(passNames))]
			if d.roll(20) == 0 {
				name = noNames[d.roll(len(noNames))]
			}
			names = append(names, name)
		}
		q, ok := impl.PassAll(p, names)
		checkDone(t, p, names, q, ok)
		if ok {
			done++
		} else {
			cut++
		}
		many := slices.Repeat(append(names, "copy", "skip"), impl.PassMax)
		q, ok = impl.PassAll(p, many[:impl.PassMax])
		checkDone(t, p, many[:impl.PassMax], q, ok)
		for _, more := range []int{impl.PassMax + 1, impl.PassMax + 2, 2 * impl.PassMax} {
			if q, ok := impl.PassAll(p, many[:more]); ok || len(q.Steps) != 0 {
				t.Fatalf("%q, %d names: %v %v", impl.ProgWrite(p), more, ok, q)
			}
		}
	})
	atLeast(t, 100, done, cut)
}

// No names make the program itself, in new memory.
func TestNoPasses(t *testing.T) {
	manyWastes(func(p impl.Prog) {
		for _, names := range [][]string{nil, {}, make([]string, 0, 3)} {
			if q, ok := impl.PassAll(p, names); !ok || !sameProg(p, q) {
				t.Fatalf("%q: %v %q", impl.ProgWrite(p), ok, impl.ProgWrite(q))
			}
		}
	})
}

// Names that are none do not matter where there are too many, nor what is behind the first of them.
func TestTooManyNamesThatAreNone(t *testing.T) {
	p := told(t, "v0 = 1 + 2 1\nend\n")
	for size := range 40 {
		names := slices.Repeat([]string{"what"}, size)
		q, ok := impl.PassAll(p, names)
		if ok != (size == 0) || sameProg(q, p) != (size <= impl.PassMax) || len(q.Steps) != map[bool]int{true: 2}[size <= impl.PassMax] {
			t.Errorf("%d: %v %v", size, ok, q)
		}
	}
	q, ok := impl.PassAll(p, []string{"fold", "what", "dead"})
	if got := impl.ProgWrite(q); ok || got != "v0 = 3 1\nend\n" {
		t.Errorf("%v %q", ok, got)
	}
}

// A program that has no room to be tidy stays as it is behind the passes ahead, and no other pass is done.
func TestPassesWithoutRoom(t *testing.T) {
	p := chain(19, 3, impl.Step{Kind: impl.StepEnd})
	p.Steps[19] = impl.Step{Kind: impl.StepSet, Dst: 3, Op: impl.OpAdd, A: num(1), B: num(2), Next: p.Steps[19].Next}
	if _, ok := impl.FlowTidy(p); ok {
		t.Fatal("there is room")
	}
	if q, ok := impl.PassDo(p, "tidy"); ok || !sameProg(p, q) {
		t.Errorf("%v %q", ok, impl.ProgWrite(q))
	}
	for _, names := range [][]string{{"tidy"}, {"fold", "tidy", "dead"}, {"dead", "tidy", "skip"}, {"dead", "skip", "tidy", "copy"}} {
		q, ok := impl.PassAll(p, names)
		checkDone(t, p, names, q, ok)
	}
	// Behind a pass that makes room it can be done.
	if _, ok := impl.PassAll(p, []string{"dead", "skip", "tidy"}); !ok {
		t.Error("no room without skips")
	}
}

func TestNoPassesOfAProgramThatIsNotOk(t *testing.T) {
	for _, p := range wrongReckoners() {
		for _, name := range append(slices.Clone(passNames), "", "what") {
			if q, ok := impl.PassDo(p, name); ok || len(q.Steps) != 0 {
				t.Fatalf("%v, %q: %v %v", p, name, ok, q)
			}
			for _, names := range [][]string{nil, {name}, slices.Repeat([]string{name}, impl.PassMax), slices.Repeat([]string{name}, impl.PassMax+1)} {
				if q, ok := impl.PassAll(p, names); ok || len(q.Steps) != 0 {
					t.Fatalf("%v, %q: %v %v", p, names, ok, q)
				}
			}
		}
	}
}
