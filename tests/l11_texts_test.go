package tests

import (
	"strings"
	"testing"

	"loop.example/g01244/impl"
)

// checkConsole compares the outputs of a text, and the desk after it, with what they have to be.
func checkConsole(t *testing.T, text string, desk impl.Desk, outputs string) {
	t.Helper()
	if got := impl.Console(text); got != outputs {
		t.Errorf("Console(%.200q) = %.500q, not %.500q", text, got, outputs)
	}
	got, ok := impl.DeskAfter(text)
	if !ok {
		t.Errorf("DeskAfter(%.200q) is refused", text)
	}
	sameDesk(t, text[:min(len(text), 200)], got, desk)
}

// checkRefused looks at a text beyond the limits.
func checkRefused(t *testing.T, text string) {
	t.Helper()
	if got := impl.Console(text); got != "" {
		t.Errorf("Console of %d bytes, %d newlines = %.200q", len(text), strings.Count(text, "\n"), got)
	}
	d, ok := impl.DeskAfter(text)
	if ok || d.Machine != (impl.Machine{}) || len(d.First) != 0 || len(d.Second) != 0 {
		t.Errorf("DeskAfter of %d bytes, %d newlines = %v, %v", len(text), strings.Count(text, "\n"), d, ok)
	}
}

func TestConsoleOfEveryCommand(t *testing.T) {
	text := `first bc
second E
commutator
power 2
normal
swap
word
other
times
trivial
equal
differ
section 01
order
reset
known lamplighter
machine 2:0a1a,1a0b
inverse
first bb
invert
act 110
level 3
states
shortest 2
nucleus
generators
sizes 2
abelian
nuclear
minimal
show
word`
	want := `bc
E
CBebcE
CBebcECBebcE
CBebcECBebcE
E
E
CBebcECBebcE
ECBebcECBebcE
no
no
100
AAAbaaAAAbaaA
1
ok
2:0a1b,1a0b
2:0a1a,1a0b
2:0a1a,1b0a
bb
BB
101
4
3
BB
- b B
b B
1 2 2
yes
2:0a1a,1b0a,1a0c
2:0a1a,1b0a,1a0c
2:0a1a,1b0a,1a0c
-
`
	checkConsole(t, text, deskOf("2:0a1a,1b0a,1a0c", "", ""), want)
}

func TestConsoleOfEmptyTexts(t *testing.T) {
	for _, text := range []string{"", "\n", "\n\n", strings.Repeat("\n", impl.MaxLines)} {
		checkConsole(t, text, impl.NewDesk(), "")
	}
}

// TestConsoleLeavesOutEmptyLines has lines that are empty, and lines that are a blank alone.
func TestConsoleLeavesOutEmptyLines(t *testing.T) {
	after := deskOf(grigorchukText, "bb", "")
	for _, text := range []string{"first b\npower 2", "first b\npower 2\n", "\nfirst b\n\npower 2\n\n", "\n\n\nfirst b\npower 2\n\n\n"} {
		checkConsole(t, text, after, "b\nbb\n")
	}
	checkConsole(t, " \n", impl.NewDesk(), "error\n")
	checkConsole(t, " ", impl.NewDesk(), "error\n")
	checkConsole(t, "first b\n \n\npower 2\n  ", after, "b\nerror\nbb\nerror\n")
	checkConsole(t, "first b\r\npower 2\r\nword", impl.NewDesk(), "error\nerror\n-\n")
	checkConsole(t, "act \nact \n", impl.NewDesk(), "\n\n")
	checkConsole(t, "show\vshow\fshow\x00\u2028show\u0085", impl.NewDesk(), "error\n")
}

func TestConsoleGoesOnBehindErrors(t *testing.T) {
	text := "first be\nfirst f\nknown nothing\nmachine 2:0a1\nsecond cde\npower 21\nlevel 6\n\xff\nswap\nswap\nfly\nword\nother\n"
	checkConsole(t, text, deskOf(grigorchukText, "be", "cde"), "be\nerror\nerror\nerror\ncde\nerror\nerror\nerror\ncde\nbe\nerror\nbe\ncde\n")
}

func TestConsoleBeginsWithTheNewDesk(t *testing.T) {
	for range 2 {
		checkConsole(t, "show\nword\nother\nknown hanoi\nfirst b\nsecond c", deskOf(records[6].text, "b", "c"), grigorchukText+"\n-\n-\n"+records[6].text+"\nb\nc\n")
	}
}

// linesOf returns so many lines, the last one of which ends with a newline.
func linesOf(n int, line string) string {
	return strings.Repeat(line+"\n", n)
}

func TestConsoleLimitOfLines(t *testing.T) {
	most := 40
	checkConsole(t, linesOf(most, "word"), impl.NewDesk(), linesOf(most, "-"))
	checkConsole(t, linesOf(most-1, "word")+"word", impl.NewDesk(), linesOf(most, "-"))
	checkConsole(t, linesOf(most-1, "")+"first b", deskOf(grigorchukText, "b", ""), "b\n")
	checkConsole(t, "first b\n"+linesOf(most-1, ""), deskOf(grigorchukText, "b", ""), "b\n")
	checkConsole(t, linesOf(most-1, " "), impl.NewDesk(), linesOf(most-1, "error"))
	for _, text := range []string{
		linesOf(most+1, "word"), linesOf(most, "word") + "word", linesOf(most+1, ""), linesOf(most, "") + "word", linesOf(most, "") + " ", linesOf(most, "word") + "\n",
		"word\n" + linesOf(most, ""), linesOf(most, "word") + "x", linesOf(2*most, "word"), linesOf(3000, ""), linesOf(most, "word") + "\nword",
	} {
		checkRefused(t, text)
	}
}

func TestConsoleLimitOfBytes(t *testing.T) {
	most := 3000
	ends := "first b\n"
	word := strings.Repeat("x", most)
	checkConsole(t, word, impl.NewDesk(), "error\n")
	checkConsole(t, word[:most-1]+"\n", impl.NewDesk(), "error\n")
	checkConsole(t, word[:most-1-len(ends)]+"\n"+ends, deskOf(grigorchukText, "b", ""), "error\nb\n")
	checkConsole(t, ends+word[len(ends):], deskOf(grigorchukText, "b", ""), "b\nerror\n")
	checkConsole(t, strings.Repeat(" ", most), impl.NewDesk(), "error\n")
	checkConsole(t, strings.Repeat("\u00e9", most/2), impl.NewDesk(), "error\n")
	for _, text := range []string{
		word + "x", word + "\n", "\n" + word, word[:most-len(ends)] + "\n" + ends, ends + word[len(ends):] + "\n", ends + word[len(ends)-1:], strings.Repeat(" ", most+1),
		strings.Repeat("\u00e9", most/2) + "x", strings.Repeat("x", 1000000), strings.Repeat("\x00", most+1), strings.Repeat("\u00e9", most),
	} {
		checkRefused(t, text)
	}
}

// randomText returns a text of lines that are commands, mostly.
func randomText(d *dice, lines int64) string {
	odd := []string{"", " ", "fly", "first", "power x", "SHOW", "second  b", "\xff\x00", "act 3"}
	var text []string
	for range lines {
		good := goodLines(2 + d.roll(2))
		switch d.roll(12) {
		case 0:
			text = append(text, odd[d.roll(int64(len(odd)))])
		case 1, 2, 3:
			text = append(text, []string{"first ", "second "}[d.roll(2)]+[]string{"b", "ab", "bA", "cb", "BcB", "d", "e"}[d.roll(7)])
		default:
			text = append(text, good[d.roll(int64(len(good)))])
		}
	}
	return strings.Join(text, "\n") + strings.Repeat("\n", int(d.roll(2)))
}

// TestConsoleJoinsOutputs is the second half of promise 11: it runs the lines of texts one by one, too.
func TestConsoleJoinsOutputs(t *testing.T) {
	d := dice(1111)
	for range 150 {
		text := randomText(&d, 1+d.roll(impl.MaxLines))
		if len(text) > impl.MaxConsole {
			text = text[:impl.MaxConsole]
		}
		desk, outputs := consoleBy(text)
		checkConsole(t, text, desk, outputs)
		desk, outputs = impl.NewDesk(), ""
		for line := range strings.SplitSeq(text, "\n") {
			if line != "" {
				after, output := impl.RunLine(desk, line)
				if !impl.IsDesk(after) || output == "error" && deskText(after) != deskText(desk) {
					t.Errorf("on %s the line %q leads to %v", deskText(desk), line, after)
				}
				desk, outputs = after, outputs+output+"\n"
			}
		}
		checkConsole(t, text, desk, outputs)
	}
}

// TestTextsAreCut runs all beginnings of a text.
func TestTextsAreCut(t *testing.T) {
	text := "known adding\nfirst bb\nact 110\npower 10\n\nlevel 5\nmachine 2:0a1a,1a0a\nsecond b\nswap\norder\n"
	outputs := map[string]bool{}
	for n := range len(text) + 1 {
		desk, want := consoleBy(text[:n])
		checkConsole(t, text[:n], desk, want)
		outputs[want] = true
	}
	if len(outputs) < 25 {
		t.Errorf("only %d different outputs", len(outputs))
	}
}
