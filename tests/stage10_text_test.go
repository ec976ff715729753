package tests

import (
	"slices"
	"strings"
	"sync"
	"testing"

	"loop.example/causey/impl"
)

func checkText(t *testing.T, text string) string {
	t.Helper()
	got := impl.PassText(text)
	if want := textByWords(text); got != want {
		t.Fatalf("%q: %q, not %q", text, got, want)
	}
	return got
}

func TestTextsOfPassesByHand(t *testing.T) {
	twice := "v2 = v0 + v1 1\nv3 = v0 + v1 2\nout v3 3\nend\n"
	for _, c := range []struct{ text, want string }{
		// No newline, no program.
		{"", "bad\n"},
		{"end", "bad\n"},
		{"tidy", "bad\n"},
		{"what", "bad\n"},
		{"\n", "bad\n"},
		{"\n\n", "bad\n"},
		{"tidy\n", "bad\n"},
		{"end\n", "bad\n"},
		{"tidy\nend", "bad\n"},
		{"tidy\n\nend\n", "bad\n"},
		{"tidy\nend\n\n", "bad\n"},
		{"tidy\nend\nend", "bad\n"},
		{"tidy\r\nend\r\n", "bad\n"},
		{"\nend \n", "bad\n"},
		{"\n end\n", "bad\n"},
		{"\nEnd\n", "bad\n"},
		{"\nend\x00\n", "bad\n"},
		{"\n\xff\xfe\n", "bad\n"},
		{"\nskip 1\n", "bad\n"},
		{"\nskip 00\n", "bad\n"},
		{"\nskip -1\nend\n", "bad\n"},
		{"\nv12 = in 0\n", "bad\n"},
		{"\nv0 = 65536 0\n", "bad\n"},
		{"\nout v0  1\nend\n", "bad\n"},
		// What is no program is so whatever the names are.
		{"what\nskip 1\n", "bad\n"},
		{" \n\n", "bad\n"},
		{strings.Repeat("tidy ", 20) + "\nskip 1\n", "bad\n"},
		// No names.
		{"\nend\n", "end\n"},
		{"\n" + twice, twice},
		{"\n" + everyText, everyText},
		// Names.
		{"tidy\nend\n", "end\n"},
		{"move\n" + twice, "v4 = v0 + v1 4\nv3 = v4 2\nout v3 3\nend\nv2 = v4 1\n"},
		{"move copy\n" + twice, "v4 = v0 + v1 4\nv3 = v4 2\nout v4 3\nend\nv2 = v4 1\n"},
		{"move copy dead skip\n" + twice, "v4 = v0 + v1 1\nout v4 2\nend\n"},
		{"dead skip\n" + twice, "v3 = v0 + v1 1\nout v3 2\nend\n"},
		{"tidy tidy\nskip 0\n", "skip 1\nskip 1\n"},
		{"fold\nv0 = 2 * 3 1\ntest 0 0 2\nend\n", "v0 = 6 1\nskip 2\nend\n"},
		// Names that are none, and such with too many blanks, or blanks ahead or behind.
		{"what\nend\n", "no\n"},
		{"tidy what\nend\n", "no\n"},
		{"Tidy\nend\n", "no\n"},
		{" \nend\n", "no\n"},
		{"  \nend\n", "no\n"},
		{" tidy\nend\n", "no\n"},
		{"tidy \nend\n", "no\n"},
		{"tidy  move\nend\n", "no\n"},
		{"tidy\tmove\nend\n", "no\n"},
		{"tidy\r\nend\n", "no\n"},
		{"tidy,move\nend\n", "no\n"},
		{"tidy\u00a0move\nend\n", "no\n"},
		{"\x00\nend\n", "no\n"},
		{"\xff\nend\n", "no\n"},
		{"end\nend\n", "no\n"},
		// As many names as there may be, and one more.
		{strings.Repeat("dead ", 11) + "move\nend\n", "end\n"},
		{strings.Repeat("dead ", 12) + "move\nend\n", "no\n"},
		{strings.Repeat(" ", 11) + "\nend\n", "no\n"},
		// The bound is of the program's text alone.
		{strings.Repeat("dead", 1000) + "\nend\n", "no\n"},
		{strings.Repeat("dead ", 1000) + "dead\nend\n", "no\n"},
		{strings.Repeat(" ", 100000) + "\nend\n", "no\n"},
	} {
		if got := checkText(t, c.text); got != c.want {
			t.Errorf("%q: %q, not %q", c.text, got, c.want)
		}
	}
}

// A text that is too long says no program, nor does one of too many lines; the longest that is one does.
func TestTextsAtTheirBounds(t *testing.T) {
	for _, first := range []string{"", "move", "what", strings.Repeat("x", impl.ProgText)} {
		for _, size := range []int{impl.ProgText - 1, impl.ProgText, impl.ProgText + 1, 10 * impl.ProgText} {
			for _, rest := range []string{
				strings.Repeat("\n", size),
				strings.Repeat(" ", size),
				strings.Repeat("end\n", size/4) + strings.Repeat("\n", size%4),
				"end\n" + strings.Repeat(" ", size-5) + "\n",
				"end\n" + strings.Repeat("0", size-4),
				"skip " + strings.Repeat("0", size-6) + "\n",
				impl.ProgWrite(longest()) + strings.Repeat(" ", size-len(impl.ProgWrite(longest()))),
			} {
				if len(rest) != size {
					t.Fatalf("%d, not %d bytes", len(rest), size)
				}
				if got := checkText(t, first+"\n"+rest); got != "bad\n" {
					t.Fatalf("%d bytes: %q", size, got)
				}
			}
		}
	}
	full := impl.ProgWrite(longest())
	if got := impl.PassText("\n" + full); got != full {
		t.Errorf("%q", got)
	}
	for _, names := range []string{"dead", "copy", "fold", "skip", "tidy", "move"} {
		checkText(t, names+"\n"+full)
		checkText(t, names+"\n"+impl.ProgWrite(skips(impl.ProgMax)))
		if got := checkText(t, names+"\n"+strings.Repeat("end\n", impl.ProgMax+1)); got != "bad\n" {
			t.Errorf("%s: %q", names, got)
		}
	}
}

// A pass that cannot be done.
func TestTextsWithoutRoom(t *testing.T) {
	text := impl.ProgWrite(chain(20, 3, impl.Step{Kind: impl.StepEnd}))
	for _, names := range []string{"tidy", "move", "dead move", "copy fold tidy skip"} {
		if got := checkText(t, names+"\n"+text); got != "no\n" {
			t.Errorf("%s: %q", names, got)
		}
	}
	if got := checkText(t, "dead copy fold\n"+text); got == "no\n" || got == "bad\n" {
		t.Errorf("%q", got)
	}
}

// spoilt is a text with a few bytes otherwise, more, or less.
func (d *dice) spoilt(text string) string {
	for range 1 + d.roll(2) {
		at := d.roll(len(text) + 1)
		some := []string{"\n", " ", "  ", "0", "1", "v", "-", "+", "\x00", "\xff", "é", "end\n", "tidy", "\r", string(rune(d.roll(128)))}[d.roll(15)]
		switch d.roll(3) {
		case 0:
			text = text[:at] + some + text[at:]
		case 1:
			text = text[:at] + text[min(at+1, len(text)):]
		default:
			text = text[:at] + some + text[min(at+len(some), len(text)):]
		}
	}
	return text
}

// textsOfPasses hands on texts that say programs and passes, and such as do so nearly.
func textsOfPasses(yield func(text string)) {
	d := &dice{state: 163}
	some := func(p impl.Prog) {
		text := strings.Join(d.somePasses(3), " ") + "\n" + impl.ProgWrite(p)
		yield(text)
		for range 4 {
			yield(d.spoilt(text))
		}
		if at := strings.IndexByte(text, '\n'); at > 0 {
			yield(d.spoilt(text[:at]) + text[at:])
		}
	}
	manySeverals(1, impl.ProgMax, 2, some)
	greatWastes(1, impl.ProgMax, 2, some)
	for range 300 {
		var any []byte
		for range d.roll(30) {
			any = append(any, byte(d.roll(256)))
		}
		yield(string(any))
	}
}

func TestTextsOfPassesAgainstWords(t *testing.T) {
	counts := map[string]int{}
	textsOfPasses(func(text string) {
		got := checkText(t, text)
		switch {
		case got == "bad\n" || got == "no\n":
			counts[got]++
		case got == text[strings.IndexByte(text, '\n')+1:]:
			counts["same"]++
		default:
			counts["other"]++
		}
	})
	atLeast(t, 200, counts["bad\n"], counts["no\n"], counts["same"], counts["other"])
}

// The lines of a text are each where they stand, however many goroutines go through texts at once.
func TestTextsAtOnce(t *testing.T) {
	var texts, want []string
	textsOfPasses(func(text string) {
		if len(texts) < 400 {
			texts, want = append(texts, text), append(want, textByWords(text))
		}
	})
	got := make([][]string, 8)
	var all sync.WaitGroup
	for k := range got {
		all.Add(1)
		go func() {
			defer all.Done()
			for _, text := range texts {
				got[k] = append(got[k], impl.PassText(text))
			}
		}()
	}
	all.Wait()
	for k := range got {
		if !slices.Equal(got[k], want) {
			t.Errorf("%d: otherwise", k)
		}
	}
}
