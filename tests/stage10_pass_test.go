package tests

import (
	"slices"
	"strings"
	"testing"

	"loop.example/causey/impl"
)

// nearlyNames are such as name no pass, each nearly one of the six.
func nearlyNames() []string {
	list := slices.Concat(noNames, []string{"moves", "mov", "PassMove", "move,dead", "tidymove", "flow", "live", "text", "all", "do"})
	for _, name := range sixNames {
		list = append(list, " "+name, name+" ", strings.ToUpper(name), strings.ToUpper(name[:1])+name[1:], name[1:], name[:3], name+name, name+"\n", "\x00"+name, name+"\t", name+"\xff", "\u200b"+name)
	}
	return list
}

func checkByWords(t *testing.T, p impl.Prog, names []string, got impl.Prog, ok bool) {
	t.Helper()
	if want, fine := allByWords(p, names); ok != fine || !sameProg(got, want) {
		t.Fatalf("%q, %q: %v %q, not %v %q", impl.ProgWrite(p), names, ok, impl.ProgWrite(got), fine, impl.ProgWrite(want))
	}
}

// somePasses are so many names at most, few of them such as name no pass.
func (d *dice) somePasses(most int) []string {
	var names []string
	for range d.roll(most + 1) {
		name := sixNames[d.roll(len(sixNames))]
		if d.roll(24) == 0 {
			name = noNames[d.roll(len(noNames))]
		}
		names = append(names, name)
	}
	return names
}

func TestSixPassesByHand(t *testing.T) {
	p := told(t, "v2 = v0 + v1 1\nv3 = v0 + v1 2\nv4 = 1 + 2 3\nout v3 4\ntest v4 5 5\nend\n")
	for _, c := range []struct{ names, want string }{
		{"tidy", "v2 = v0 + v1 1\nv3 = v0 + v1 2\nv4 = 1 + 2 3\nout v3 4\ntest v4 6 7\nend\nskip 5\nskip 5\n"},
		{"move", "v5 = v0 + v1 8\nv3 = v5 2\nv4 = 1 + 2 3\nout v3 4\ntest v4 6 7\nend\nskip 5\nskip 5\nv2 = v5 1\n"},
		{"dead", "skip 1\nv3 = v0 + v1 2\nv4 = 1 + 2 3\nout v3 4\ntest v4 5 5\nend\n"},
		{"copy", "v2 = v0 + v1 1\nv3 = v0 + v1 2\nv4 = 1 + 2 3\nout v3 4\ntest v4 5 5\nend\n"},
		{"fold", "v2 = v0 + v1 1\nv3 = v0 + v1 2\nv4 = 3 3\nout v3 4\ntest v4 5 5\nend\n"},
		{"skip", "v2 = v0 + v1 1\nv3 = v0 + v1 2\nv4 = 1 + 2 3\nout v3 4\ntest v4 5 5\nend\n"},
		{"dead move", "skip 1\nv3 = v0 + v1 2\nv4 = 1 + 2 3\nout v3 4\ntest v4 6 7\nend\nskip 5\nskip 5\n"},
		{"move copy dead skip", "v5 = v0 + v1 1\nv4 = 1 + 2 2\nout v5 3\ntest v4 4 4\nend\n"},
		{"move copy dead fold copy fold dead skip", "v5 = v0 + v1 1\nout v5 2\nend\n"},
		{"move move", "v5 = v0 + v1 8\nv3 = v5 2\nv4 = 1 + 2 3\nout v3 4\ntest v4 6 7\nend\nskip 5\nskip 5\nv2 = v5 1\n"},
	} {
		names := strings.Fields(c.names)
		q, ok := impl.PassAll(p, names)
		if got := impl.ProgWrite(q); !ok || got != c.want {
			t.Errorf("%s: %v %q", c.names, ok, got)
		}
		checkByWords(t, p, names, q, ok)
		if len(names) > 1 {
			continue
		}
		if q, ok := impl.PassDo(p, names[0]); !ok || impl.ProgWrite(q) != c.want {
			t.Errorf("PassDo %s: %v %q", c.names, ok, impl.ProgWrite(q))
		}
	}
}

// Each pass is what is said of it, of each program; PassMove is nothing where the pass that it is leaves the program.
func TestEachOfSixPassesAgainstWords(t *testing.T) {
	refused, done := map[string]int{}, map[string]int{}
	check := func(p impl.Prog) {
		for _, name := range sixNames {
			q, ok := impl.PassDo(p, name)
			checkByWords(t, p, []string{name}, q, ok)
			if ok {
				done[name]++
			} else {
				refused[name]++
			}
		}
		moved, fine := impl.PassMove(p)
		if q, ok := impl.PassDo(p, "move"); ok != fine || ok && !sameProg(q, moved) || !ok && (!sameProg(q, p) || len(moved.Steps) != 0) {
			t.Fatalf("%q: %v %q, and PassMove %v %q", impl.ProgWrite(p), ok, impl.ProgWrite(q), fine, impl.ProgWrite(moved))
		}
	}
	manySeverals(1, impl.ProgMax, 2, check)
	greatWastes(1, impl.ProgMax, 2, check)
	for _, name := range sixNames {
		if refusable := name == "tidy" || name == "move"; done[name] < 300 || refused[name] > 0 != refusable || refusable && refused[name] < 30 {
			t.Errorf("%s: %d done, %d not", name, done[name], refused[name])
		}
	}
}

func TestNamesThatAreNearlyPasses(t *testing.T) {
	d := &dice{state: 161}
	for _, size := range []int{1, 2, 5, 12, 30, impl.ProgMax} {
		p := d.several(size)
		for _, name := range nearlyNames() {
			if q, ok := impl.PassDo(p, name); ok || !sameProg(q, p) {
				t.Fatalf("%q, %q: %v %q", impl.ProgWrite(p), name, ok, impl.ProgWrite(q))
			}
			for _, names := range [][]string{{name}, {name, "move"}, {"fold", name, "move"}, {"fold", "dead", name}} {
				q, ok := impl.PassAll(p, names)
				if ok {
					t.Fatalf("%q, %q: done", impl.ProgWrite(p), names)
				}
				checkByWords(t, p, names, q, ok)
			}
		}
	}
}

// Passes of any of the six names, as many as there may be, one behind the other.
func TestSixPassesOneBehindTheOther(t *testing.T) {
	d := &dice{state: 162}
	done, broken := 0, 0
	manySeverals(1, impl.ProgMax, 3, func(p impl.Prog) {
		names := d.somePasses(impl.PassMax)
		q, ok := impl.PassAll(p, names)
		checkByWords(t, p, names, q, ok)
		if ok {
			done++
		} else {
			broken++
		}
	})
	atLeast(t, 100, done, broken)
}

func TestAsManyPassesAsThereMayBe(t *testing.T) {
	p := told(t, "v2 = v0 + v1 1\nv3 = v0 + v1 2\nend\n")
	moved := "v4 = v0 + v1 3\nv3 = v4 2\nend\nv2 = v4 1\n"
	for _, name := range append([]string{"what", ""}, sixNames...) {
		for size := range 3 * impl.PassMax {
			names := append(slices.Repeat([]string{name}, size), "what")[:size]
			q, ok := impl.PassAll(p, names)
			if size > impl.PassMax && (ok || len(q.Steps) != 0) {
				t.Fatalf("%d %q: %v %q", size, name, ok, impl.ProgWrite(q))
			}
			checkByWords(t, p, names, q, ok)
		}
	}
	// A twelfth name counts, also behind others that change nothing.
	names := append(slices.Repeat([]string{"copy"}, impl.PassMax-1), "move")
	if q, ok := impl.PassAll(p, names); !ok || impl.ProgWrite(q) != moved {
		t.Errorf("%v %q", ok, impl.ProgWrite(q))
	}
	names[impl.PassMax-1] = "Move"
	if q, ok := impl.PassAll(p, names); ok || !sameProg(q, p) {
		t.Errorf("%v %q", ok, impl.ProgWrite(q))
	}
	if q, ok := impl.PassAll(p, append(names, "move")); ok || len(q.Steps) != 0 {
		t.Errorf("%v %q", ok, impl.ProgWrite(q))
	}
}

// Where a program has no room to be tidy `move` leaves it as it is behind the passes ahead, and none is done behind.
func TestMoveWithoutRoom(t *testing.T) {
	p := chain(19, 3, impl.Step{Kind: impl.StepEnd})
	p.Steps[19] = impl.Step{Kind: impl.StepSet, Dst: 3, Op: impl.OpAdd, A: num(1), B: num(2), Next: p.Steps[19].Next}
	if len(tidyByNodes(p).Steps) != impl.ProgMax+1 {
		t.Fatal("not one step too many")
	}
	for _, name := range []string{"tidy", "move"} {
		if q, ok := impl.PassDo(p, name); ok || !sameProg(q, p) {
			t.Errorf("%s: %v %q", name, ok, impl.ProgWrite(q))
		}
		for _, ahead := range [][]string{nil, {"fold"}, {"copy", "fold"}} {
			names := append(slices.Clone(ahead), name, "dead", "skip")
			q, ok := impl.PassAll(p, names)
			if want, _ := allByWords(p, ahead); ok || !sameProg(q, want) {
				t.Errorf("%q: %v %q", names, ok, impl.ProgWrite(q))
			}
		}
		// Behind passes that make room it can be done.
		names := []string{"dead", "skip", name}
		q, ok := impl.PassAll(p, names)
		if !ok {
			t.Errorf("%q: not done", names)
		}
		checkByWords(t, p, names, q, ok)
	}
}

func TestSixPassesOfAProgramThatIsNotOk(t *testing.T) {
	for _, p := range wrongReckoners() {
		for _, name := range append([]string{"", "what"}, sixNames...) {
			if q, ok := impl.PassDo(p, name); ok || len(q.Steps) != 0 {
				t.Fatalf("%v, %q: %v %v", p, name, ok, q)
			}
			for _, names := range [][]string{nil, {name}, {"move", name}, slices.Repeat([]string{name}, impl.PassMax+1)} {
				if q, ok := impl.PassAll(p, names); ok || len(q.Steps) != 0 {
					t.Fatalf("%v, %q: %v %v", p, names, ok, q)
				}
			}
		}
	}
}
