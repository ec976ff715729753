package tests

import (
	"slices"
	"strings"
	"testing"

	"loop.example/causey/impl"
)

// movingCase is a program, a reckoning, and by hand what PlaceBusy and PlaceLazy are: where it is put, who takes it, and where it is needed, with a blank between.
type movingCase struct {
	text string
	said string
	busy string
	lazy string
}

func checkMoving(t *testing.T, c movingCase) {
	t.Helper()
	p, e := told(t, c.text), exprTold(t, c.said)
	s := sceneOf(p, e)
	for i, x := range []impl.Place{impl.PlaceBusy(p, e), impl.PlaceLazy(p, e)} {
		want := []string{c.busy, c.lazy}[i]
		if got := placeRows(x) + " " + row(impl.PlaceLive(p, e, x)); got != want {
			t.Errorf("%q, %s: %d: %s, not %s", c.text, c.said, i, got, want)
		}
		// What is by hand holds for the tests' own means, too.
		if own := placeRows(x) + " " + row(s.live(x)); own != want {
			t.Errorf("%q, %s: %d: by ways %s", c.text, c.said, i, own)
		}
	}
	if got, want := placeRows(impl.PlaceNone(p, e)), placeRows(s.none()); got != want {
		t.Errorf("%q, %s: none: %s", c.text, c.said, got)
	}
}

func TestMovingByHand(t *testing.T) {
	for _, c := range []movingCase{
		// In a tidy loop that is done once at least the latest place is the skip ahead of it; the step behind the loop takes it, too.
		{"v9 = in 7\nv2 = v0 + v1 2\nv9 = v9 - 1 3\ntest v9 8 4\nout v2 5\nv3 = v0 + v1 6\nend\nskip 1\nskip 1\n", "v0 + v1", "100000000 010001000 011111011", "000000010 010001000 011111001"},
		// On one of two ways it is reckoned, and again where they meet.
		{"test v2 1 2\nv3 = v0 + v1 7\nskip 3\nv4 = v0 + v1 4\nout v3 5\nout v4 6\nend\nskip 3\n", "v0 + v1", "10000000 01010000 01110001", "01100000 01010000 00010001"},
		// The same, not tidy.
		{"test v2 1 2\nv3 = v0 + v1 3\nv3 = 0 3\nv4 = v0 + v1 4\nend\n", "v0 + v1", "10000 01010 01110", "01100 01010 00010"},
		// Twice on a row of ways: the first that reckons it has a place and a take.
		{"v2 = v0 + v1 1\nv3 = v0 + v1 2\nend\n", "v0 + v1", "100 110 010", "100 110 010"},
		{"skip 1\nv2 = v0 - v1 2\nskip 3\nv3 = v0 - v1 4\nend\n", "v0 - v1", "10000 01010 01110", "01000 01010 00110"},
		// It would serve one step alone: it stays there.
		{"v2 = v0 + v1 1\nend\n", "v0 + v1", "10 10 00", "00 00 00"},
		{"skip 1\nv2 = v0 + v1 2\nend\n", "v0 + v1", "100 010 010", "000 000 000"},
		// An operand changes between.
		{"v2 = v0 + v1 1\nv1 = in 2\nv3 = v0 + v1 3\nend\n", "v0 + v1", "1010 1010 0000", "0000 0000 0000"},
		// Turned about it is another reckoning.
		{"v2 = v0 + v1 1\nv3 = v1 + v0 2\nend\n", "v0 + v1", "100 100 000", "000 000 000"},
	} {
		checkMoving(t, c)
	}
}

func TestMovingAtTheEdges(t *testing.T) {
	for _, c := range []movingCase{
		// Nothing reckons it, nothing comes behind.
		{"end\n", "v0 + v1", "0 0 0", "0 0 0"},
		{"end\n", "3 + 4", "0 0 0", "0 0 0"},
		// A step whose way leads to itself: idle, reckoning, changing its own operand.
		{"skip 0\n", "v0 + v1", "1 0 0", "0 0 0"},
		{"v2 = v0 + v1 0\n", "v0 + v1", "1 1 0", "0 0 0"},
		{"v0 = v0 + v1 0\n", "v0 + v1", "1 1 0", "0 0 0"},
		{"skip 1\nv2 = v0 + v1 1\n", "v0 + v1", "10 01 01", "10 01 01"},
		// Steps that change their own operand: what is kept is of no use behind.
		{"v0 = v0 + v1 1\nend\n", "v0 + v1", "10 10 00", "00 00 00"},
		{"v0 = v0 + v1 1\nv2 = v0 + v1 2\nv3 = v0 + v1 3\nend\n", "v0 + v1", "1100 1110 0010", "0100 0110 0010"},
		{"v2 = v0 + v1 1\nv0 = v0 + v1 2\nv3 = v0 + v1 3\nend\n", "v0 + v1", "1010 1110 0100", "1000 1100 0100"},
		// A choice whose both ways are one.
		{"test v0 1 1\nv2 = v0 + v1 2\nend\n", "v0 + v1", "100 010 010", "000 000 000"},
		{"test v0 1 1\nv2 = v0 + v1 2\nv3 = v0 + v1 3\nend\n", "v0 + v1", "1000 0110 0110", "0100 0110 0010"},
		// A place at the first step, with a way back to it, and without.
		{"v2 = v0 + v1 1\ntest v2 0 2\nend\n", "v0 + v1", "100 100 000", "000 000 000"},
		{"v2 = v0 + v1 1\nv3 = v0 + v1 2\ntest v3 0 3\nend\n", "v0 + v1", "1000 1100 0100", "1000 1100 0100"},
		{"skip 1\nv2 = v0 + v1 2\ntest v2 3 4\nskip 1\nend\n", "v0 + v1", "10000 01000 01110", "10000 01000 01110"},
		// Steps that cannot be come to put and take nothing, but are told of, where they lead to what takes.
		{"skip 2\nv0 = in 2\nv2 = v0 + v1 3\nv3 = v0 + v1 4\nend\nv3 = v0 + v1 3\n", "v0 + v1", "100000 001100 011101", "001000 001100 000101"},
		// Numbers alone.
		{"v2 = 3 + 4 1\nv2 = in 2\nv0 = 3 + 4 3\nend\n", "3 + 4", "1000 1010 0110", "1000 1010 0110"},
		// No step reckons it: as early as can be it is put on a way that never ends.
		{"test v2 1 2\nend\nskip 2\n", "v8 < v9", "001 000 000", "000 000 000"},
		{"skip 1\ntest v2 2 3\nskip 1\nend\n", "v0 + v1", "0000 0000 0000", "0000 0000 0000"},
	} {
		checkMoving(t, c)
	}
}

// admissibleCase is a program, a reckoning, and ways of moving with what PlaceOk is by hand.
type admissibleCase struct {
	text string
	said string
	yes  string // puts and takes with a blank between, more ways behind a comma
	no   string
}

func (c admissibleCase) check(t *testing.T, ways string, want bool) {
	t.Helper()
	p, e := told(t, c.text), exprTold(t, c.said)
	for _, way := range strings.Split(ways, ", ") {
		x := placeTold(t, way, len(p.Steps))
		if got := impl.PlaceOk(p, e, x); got != want {
			t.Errorf("%q, %s: %s: %v", c.text, c.said, way, got)
		}
		if sceneOf(p, e).admits(x) != want {
			t.Errorf("%q, %s: %s: by ways not %v", c.text, c.said, way, want)
		}
	}
}

// rowTold is a row of so many steps.
func rowTold(t *testing.T, text string, size int) []bool {
	t.Helper()
	var list []bool
	for _, digit := range text {
		list = append(list, digit == '1')
	}
	if row(list) != text || len(list) != size {
		t.Fatalf("%q is no row of %d", text, size)
	}
	return list
}

func placeTold(t *testing.T, text string, size int) impl.Place {
	t.Helper()
	puts, takes, _ := strings.Cut(text, " ")
	return impl.Place{Puts: rowTold(t, puts, size), Takes: rowTold(t, takes, size)}
}

func TestWhatIsAdmissibleByHand(t *testing.T) {
	for _, c := range []admissibleCase{
		{"v2 = v0 + v1 1\nskip 2\nv3 = v0 + v1 3\nend\n", "v0 + v1",
			"0000 0000, 1000 1010, 1000 1000, 1000 0010, 1000 0000, 0100 0010, 0010 0010, 1010 1010, 1010 1000, 0001 0000, 1111 1010",
			// Nothing is held; it is held too late; who takes does not reckon.
			"0000 0010, 0000 1000, 0100 1010, 0010 1010, 0001 0010, 1000 0100, 1000 0001, 1111 1111"},
		// An operand changes: what was kept is of no use behind, nor is it safe there.
		{"v2 = v0 + v1 1\nv1 = in 2\nv3 = v0 + v1 3\nend\n", "v0 + v1",
			"1010 1010, 0010 0010, 1000 1000, 0100 0000, 1111 1010",
			"1000 1010, 0100 0010, 1000 0010, 1001 0010"},
		{"v0 = in 1\nskip 2\nv0 = in 3\nv2 = v0 + v1 4\nend\n", "v0 + v1", "00010 00010, 00001 00000", "10000 00000, 01000 00000, 00100 00000, 00001 00010"},
		// Its own operand.
		{"v0 = v0 + v1 1\nv2 = v0 + v1 2\nend\n", "v0 + v1", "100 100, 110 110, 010 010", "100 110, 100 010, 010 110"},
		{"v0 = v0 + v1 1\nend\n", "v0 + v1", "10 10, 10 00", "01 00"},
		// Back to the first step: nothing is held ahead of it, unless it is put there.
		{"v2 = v0 + v1 1\ntest v2 0 2\nend\n", "v0 + v1", "100 100, 110 100, 010 000, 011 000", "010 100, 011 100, 001 100"},
		{"skip 1\nv2 = v0 + v1 2\ntest v2 0 3\nend\n", "v0 + v1", "1000 0100, 0100 0100, 0010 0000", "0010 0100, 0011 0100"},
		// A step whose way leads to itself: it is held round and round, if it is held ahead.
		{"skip 1\nv2 = v0 + v1 1\n", "v0 + v1", "10 01, 01 01, 11 01", "00 01, 10 10"},
		{"v2 = v0 + v1 0\n", "v0 + v1", "0 0, 1 0, 1 1", "0 1"},
		{"skip 0\n", "v0 + v1", "0 0, 1 0", "0 1, 1 1"},
		{"v0 = in 0\n", "v0 + v1", "0 0", "1 0, 0 1"},
		// Round by two steps, and in by both: it must be held ahead of both.
		{"test v2 1 2\nv3 = v0 + v1 2\nv4 = v0 + v1 1\n", "v0 + v1", "100 011, 011 011, 010 010, 001 001", "010 011, 010 001, 001 011, 000 010"},
		// Ways meet: each must bring it.
		{"test v2 1 2\nv3 = v0 + v1 3\nskip 3\nv4 = v0 + v1 4\nend\n", "v0 + v1", "01100 01010, 01100 00010, 10000 01010, 01000 01000, 00010 00010, 00001 00000", "01000 01010, 00100 00010, 00010 01010, 00100 01000"},
		// It is safe on one of two ways alone.
		{"test v2 1 2\nv3 = v0 + v1 3\nskip 3\nend\n", "v0 + v1", "0100 0100, 0100 0000", "1000 0100, 1000 0000, 0010 0000, 0001 0000"},
		// A choice whose both ways are one.
		{"test v0 1 1\nv2 = v0 + v1 2\nend\n", "v0 + v1", "100 010, 010 010", "001 010, 100 110"},
		// Steps that cannot be come to: nothing is put or taken there, nor do they lead there.
		{"skip 2\nv0 = in 2\nv2 = v0 + v1 3\nend\nv3 = v0 + v1 2\n", "v0 + v1", "10000 00100, 00100 00100", "00001 00000, 00001 00001, 10000 00101, 10000 00001, 01000 00000"},
		// Numbers alone.
		{"v2 = 3 + 4 1\nv2 = in 2\nv0 = 3 + 4 3\nend\n", "3 + 4", "1000 1010, 0100 0010, 1111 1010", "0010 1010, 1000 0100"},
		// Nobody reckons it.
		{"end\n", "v0 + v1", "0 0", "1 0, 0 1, 1 1"},
		{"v2 = v0 + v1 1\nend\n", "v1 + v0", "00 00", "10 00, 01 00, 00 10"},
	} {
		c.check(t, c.yes, true)
		c.check(t, c.no, false)
	}
}

func TestWhereWhatIsKeptIsNeededByHand(t *testing.T) {
	for _, c := range []struct {
		text string
		puts string
		rows string // takes, and where it is needed
	}{
		{"v2 = v0 + v1 1\nskip 2\nv3 = v0 + v1 3\nend\n", "1000", "1010 0110"},
		{"v2 = v0 + v1 1\nskip 2\nv3 = v0 + v1 3\nend\n", "1010", "1010 0000"},
		{"v2 = v0 + v1 1\nskip 2\nv3 = v0 + v1 3\nend\n", "0001", "1010 1110"},
		// It is not asked whether it is admissible, nor whether the step reckons it, or an operand changes.
		{"v2 = v0 + v1 1\nv0 = in 2\nv3 = v0 + v1 3\nend\n", "0000", "0010 1110"},
		{"skip 1\nskip 2\nend\n", "000", "010 110"},
		{"skip 1\nskip 2\nend\n", "010", "011 001"},
		{"end\n", "0", "1 1"},
		// Ways that lead round, and nobody takes it: as few as there can be.
		{"skip 0\n", "0", "0 0"},
		{"skip 1\nskip 1\n", "00", "00 00"},
		{"skip 1\ntest v2 0 2\nskip 1\n", "000", "000 000"},
		{"test v2 1 2\nskip 2\nskip 1\n", "000", "000 000"},
		// Somebody does.
		{"skip 0\n", "0", "1 1"},
		{"skip 0\n", "1", "1 0"},
		{"skip 1\ntest v2 0 2\nv3 = v0 + v1 1\n", "000", "001 111"},
		{"skip 1\ntest v2 0 2\nv3 = v0 + v1 1\n", "010", "001 001"},
		{"skip 1\ntest v2 0 2\nv3 = v0 + v1 1\n", "001", "001 000"},
		// A choice: one way is enough, also if both are one.
		{"test v2 1 2\nv3 = v0 + v1 3\nskip 3\nend\n", "0000", "0100 1100"},
		{"test v2 1 2\nv3 = v0 + v1 3\nskip 3\nend\n", "0100", "0100 0000"},
		{"test v2 1 1\nv3 = v0 + v1 2\nend\n", "000", "010 110"},
		// Steps that cannot be come to are told of as others.
		{"end\nskip 2\nend\n", "000", "001 011"},
		{"end\nskip 2\nv2 = v0 + v1 0\n", "001", "001 000"},
		{"skip 1\nend\nskip 1\n", "000", "010 111"},
	} {
		p, e := told(t, c.text), exprTold(t, "v0 + v1")
		takes, want, _ := strings.Cut(c.rows, " ")
		x := placeTold(t, c.puts+" "+takes, len(p.Steps))
		if got := row(impl.PlaceLive(p, e, x)); got != want {
			t.Errorf("%q, %s: %s, not %s", c.text, placeRows(x), got, want)
		}
		if own := row(sceneOf(p, e).live(x)); own != want {
			t.Errorf("%q, %s: by ways %s, not %s", c.text, placeRows(x), own, want)
		}
	}
}

// checkNamed: the ways that have names are what the document says of them.
func checkNamed(t *testing.T, s scene) {
	t.Helper()
	for i, c := range [][2]impl.Place{{impl.PlaceNone(s.p, s.e), s.none()}, {impl.PlaceBusy(s.p, s.e), s.busy()}, {impl.PlaceLazy(s.p, s.e), s.lazy()}} {
		if got, want := c[0], c[1]; !samePlace(got, want) {
			t.Fatalf("%q, %s: %d: %s, not %s", impl.ProgWrite(s.p), exprSaid(s.e), i, placeRows(got), placeRows(want))
		}
	}
}

func TestWaysOfMovingAgainstWays(t *testing.T) {
	check := func(p impl.Prog, e impl.Expr) { checkNamed(t, sceneOf(p, e)) }
	manyMovers(check)
	runMovers(1, impl.ProgMax, 2, check)
}

// eachPlace hands on each way of moving with the form, of so many steps.
func eachPlace(size int, yield func(x impl.Place)) {
	for bits := range 1 << (2 * size) {
		x := impl.Place{Puts: make([]bool, size), Takes: make([]bool, size)}
		for at := range size {
			x.Puts[at], x.Takes[at] = bits>>at&1 == 1, bits>>(size+at)&1 == 1
		}
		yield(x)
	}
}

// checkPlace holds what is told of a way of moving against the tests' own means.
func checkPlace(t *testing.T, s scene, x impl.Place) bool {
	t.Helper()
	ok := s.admits(x)
	if got := impl.PlaceOk(s.p, s.e, x); got != ok {
		t.Fatalf("%q, %s: %s: %v", impl.ProgWrite(s.p), exprSaid(s.e), placeRows(x), got)
	}
	if got, want := impl.PlaceLive(s.p, s.e, x), s.live(x); !slices.Equal(got, want) {
		t.Fatalf("%q, %s: %s: needed %s, not %s", impl.ProgWrite(s.p), exprSaid(s.e), placeRows(x), row(got), row(want))
	}
	return ok
}

// Of the smallest programs each way of moving is tried, of others some.
func TestWhatIsAdmissibleAndNeededAgainstWays(t *testing.T) {
	d := &dice{state: 72}
	counts := map[bool]int{}
	some := func(p impl.Prog, e impl.Expr) {
		s := sceneOf(p, e)
		if len(p.Steps) <= 2 {
			eachPlace(len(p.Steps), func(x impl.Place) { counts[checkPlace(t, s, x)]++ })
			return
		}
		for range 3 {
			counts[checkPlace(t, s, d.anyPlace(s))]++
		}
	}
	smallMovers(some)
	greatMovers(1, impl.ProgMax, 3, some)
	runMovers(1, impl.ProgMax, 3, some)
	if counts[true] < 10000 || counts[false] < 10000 {
		t.Errorf("only %d are admissible, %d are not", counts[true], counts[false])
	}
}

// checkSets holds both sentences against all sets of steps: the greatest that fits, and the least.
func checkSets(t *testing.T, s scene, x impl.Place) {
	t.Helper()
	held := bySets(s.matter, func(at int, so []bool) bool { return s.saidHeld(at, x.Puts, so) })
	live := fewestBySets(len(s.reach), func(at int, so []bool) bool { return s.saidLive(at, x, so) })
	if own := s.held(x.Puts); !slices.Equal(own, held) {
		t.Fatalf("%q, %s: %s: held by ways %s, not %s", impl.ProgWrite(s.p), exprSaid(s.e), placeRows(x), row(own), row(held))
	}
	if got := impl.PlaceLive(s.p, s.e, x); !slices.Equal(got, live) || !slices.Equal(s.live(x), live) {
		t.Fatalf("%q, %s: %s: needed %s, not %s", impl.ProgWrite(s.p), exprSaid(s.e), placeRows(x), row(got), row(live))
	}
	checkHeldByTakes(t, s, x.Puts, held)
}

// checkHeldByTakes asks of each step, whether it may take what is put so, where it is safe to.
func checkHeldByTakes(t *testing.T, s scene, puts, held []bool) {
	t.Helper()
	x := s.none()
	for at, put := range puts {
		x.Puts[at] = put && s.canPut(at)
	}
	if !slices.Equal(x.Puts, puts) {
		return
	}
	for at := range puts {
		x.Takes = make([]bool, len(puts))
		x.Takes[at] = true
		if got := impl.PlaceOk(s.p, s.e, x); got != (s.reckons[at] && held[at]) {
			t.Fatalf("%q, %s: %s: %v, held %s", impl.ProgWrite(s.p), exprSaid(s.e), placeRows(x), got, row(held))
		}
	}
}

func TestWhatIsHeldAndNeededAgainstAllSets(t *testing.T) {
	d := &dice{state: 73}
	check := func(p impl.Prog, e impl.Expr) {
		if len(p.Steps) > 7 {
			return
		}
		s := sceneOf(p, e)
		checkSets(t, s, d.hereAndThere(s))
		checkSets(t, s, d.anyPlace(s))
	}
	smallMovers(check)
	greatMovers(3, 7, 20, check)
	runMovers(2, 7, 20, check)
}

// What is held, of programs of each size.
func TestWhoMayTakeAgainstWays(t *testing.T) {
	d := &dice{state: 74}
	check := func(p impl.Prog, e impl.Expr) {
		s := sceneOf(p, e)
		x := d.hereAndThere(s)
		checkHeldByTakes(t, s, x.Puts, s.held(x.Puts))
	}
	greatMovers(1, impl.ProgMax, 2, check)
	runMovers(1, impl.ProgMax, 2, check)
}

// Where steps stand does not matter: what is told of each goes with it.
func TestMovingInShuffledSteps(t *testing.T) {
	d := &dice{state: 75}
	runMovers(2, impl.ProgMax, 2, func(p impl.Prog, e impl.Expr) {
		q, to := d.shuffled(p)
		elsewhere := func(x impl.Place) impl.Place { return impl.Place{Puts: placed(x.Puts, to), Takes: placed(x.Takes, to)} }
		x := d.anyPlace(sceneOf(p, e))
		y := elsewhere(x)
		if !samePlace(impl.PlaceBusy(q, e), elsewhere(impl.PlaceBusy(p, e))) || !samePlace(impl.PlaceLazy(q, e), elsewhere(impl.PlaceLazy(p, e))) ||
			impl.PlaceOk(q, e, y) != impl.PlaceOk(p, e, x) || !slices.Equal(impl.PlaceLive(q, e, y), placed(impl.PlaceLive(p, e, x), to)) {
			t.Fatalf("%q, %s: %s: told otherwise in %q", impl.ProgWrite(p), exprSaid(e), placeRows(x), impl.ProgWrite(q))
		}
	})
}

// The ways of moving of the tests have what the document names, else the other tests tell little.
func TestManyMovingsHaveAllThereIs(t *testing.T) {
	d := &dice{state: 76}
	counts := map[string]int{}
	count := func(p impl.Prog, e impl.Expr) {
		s := sceneOf(p, e)
		countPlace(s, d.hereAndThere(s), counts)
		countPlace(s, s.lazy(), counts)
	}
	smallMovers(count)
	greatMovers(1, impl.ProgMax, 2, count)
	runMovers(1, impl.ProgMax, 2, count)
	for _, name := range []string{
		"fewer are held, too", "more are needed, too", "put and taken at one step", "put at the first step", "put at the first step, with a way back", "taken at the first step",
		"put where it is safe by SafeUp alone", "taken by one that changes its operand", "a choice with one way takes it on", "put at a choice", "put at an end", "reckons, and cannot take", "may take, and does not",
		"reckons, and cannot be come to", "held round and round", "put at a step whose way leads to itself", "needed at what cannot be come to",
	} {
		if counts[name] < 30 {
			t.Errorf("%s: only %d", name, counts[name])
		}
	}
}

func countPlace(s scene, x impl.Place, counts map[string]int) {
	held, live := s.held(x.Puts), s.live(x)
	if !slices.Equal(held, least(s.matter, func(at int, so []bool) bool { return s.saidHeld(at, x.Puts, so) })) {
		counts["fewer are held, too"]++
	}
	if so := slices.Repeat([]bool{true}, len(live)); !slices.Equal(live, mostLive(s, x, so)) {
		counts["more are needed, too"]++
	}
	for at, can := range s.reach {
		next := s.behind(at)
		one := len(next) == 2 && next[0] == next[1]
		for name, is := range map[string]bool{
			"put and taken at one step":               x.Puts[at] && x.Takes[at],
			"put at the first step":                   x.Puts[at] && at == 0,
			"put at the first step, with a way back":  x.Puts[at] && at == 0 && len(s.ahead[0]) > 0,
			"taken at the first step":                 x.Takes[at] && at == 0,
			"put where it is safe by SafeUp alone":    x.Puts[at] && !s.down[at],
			"taken by one that changes its operand":   x.Takes[at] && !s.keeps[at],
			"a choice with one way takes it on":       one && held[at] && live[at],
			"put at a choice":                         x.Puts[at] && len(next) == 2,
			"put at an end":                           x.Puts[at] && len(next) == 0,
			"reckons, and cannot take":                can && s.reckons[at] && !held[at],
			"may take, and does not":                  s.reckons[at] && held[at] && !x.Takes[at],
			"reckons, and cannot be come to":          !can && s.reckons[at],
			"held round and round":                    held[at] && !x.Puts[at] && slices.Contains(next, at),
			"put at a step whose way leads to itself": x.Puts[at] && slices.Contains(next, at),
			"needed at what cannot be come to":        !can && live[at],
		} {
			if is {
				counts[name]++
			}
		}
	}
}

// mostLive is as many steps as there can be of which the sentence of what is needed is true. It is not what the document asks for.
func mostLive(s scene, x impl.Place, so []bool) []bool {
	for range s.reach {
		next := make([]bool, len(so))
		for at := range so {
			next[at] = s.saidLive(at, x, so)
		}
		so = next
	}
	return so
}
