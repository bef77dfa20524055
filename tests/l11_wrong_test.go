package tests

import (
	"strconv"
	"strings"
	"testing"

	"loop.example/g01244/impl"
)

// wrongDesks returns desks on which no line of wrong words may be taken for another one.
func wrongDesks() []impl.Desk {
	return []impl.Desk{impl.NewDesk(), deskOf(grigorchukText, "be", "cD"), deskOf("3:0a1a2a,1a2a0b", "bab", ""), deskOf("2:0a1a", "", "A")}
}

func checkWrong(t *testing.T, line string) {
	t.Helper()
	for _, d := range wrongDesks() {
		checkLine(t, d, line, d, "error")
	}
}

func TestLinesWithoutACommand(t *testing.T) {
	for _, line := range []string{
		"", " ", "  ", "   ", "fly", "fly b", "0", "4", "-", "b", "be", "abelian?", "yes", "ok", "error", "none", "M", "G", "TEXT", "N", "\t", "\tshow", "show\t", "show\r", "\x00", "show\x00", "\x00show",
		"\xff", "\xff\xfe first b", "show\xff", "\u0455how", "\uff53how", "sho\u0077\u0301", "first\u00a0b", "first\tb", "show\n", "\nshow", "show\nshow", "first b\n", "first b\nshow", "power 2\n",
		"inverse,", "inverse, minimal", "inverse,minimal", "trivial equal", "first second b", "helpful", "quit", "exit", strings.Repeat("show", 1000), strings.Repeat(" ", 100000), strings.Repeat("x", 1000000),
	} {
		checkWrong(t, line)
	}
}

// TestCommandsAreWhole spoils the names of commands: capitals, parts, and more letters.
func TestCommandsAreWhole(t *testing.T) {
	known := map[string]bool{}
	for _, row := range wholeTable() {
		known[row.command] = true
	}
	for _, row := range wholeTable() {
		name := row.command
		names := []string{strings.ToUpper(name), strings.ToUpper(name[:1]) + name[1:], name[:len(name)-1] + strings.ToUpper(name[len(name)-1:]), name + name, name + "s", "s" + name, name + ":", "." + name}
		for i := range len(name) {
			names = append(names, name[:i], name[i+1:], name[:i]+name[i+1:], name[:i]+" "+name[i:])
		}
		for _, other := range names {
			if !known[other] {
				for _, behind := range []string{"", " ", " 2", " b", " 0110", " adding", " 2:0a1a"} {
					checkWrong(t, other+behind)
				}
			}
		}
	}
}

// TestNumbersOfWords has commands with a word missing, and with words too many.
func TestNumbersOfWords(t *testing.T) {
	for _, row := range wholeTable() {
		switch row.behind {
		case "":
			for _, behind := range []string{" ", "  ", " b", " 0", " 2", "  2", " " + row.command} {
				checkWrong(t, row.command+behind)
			}
			checkWrong(t, " "+row.command)
		case "N":
			for _, behind := range []string{"", " ", "  ", "  1", " 1 ", " 1 1", " 1  ", " 0 0", " 1 b", " b 1"} {
				checkWrong(t, row.command+behind)
			}
			checkWrong(t, " "+row.command+" 1")
		default:
			checkWrong(t, row.command)
			checkWrong(t, " "+row.command+" ")
			checkWrong(t, " "+row.command+" b")
		}
	}
}

func TestTextsAreTheRestOfTheLine(t *testing.T) {
	for _, text := range []string{" ", "  ", " b", "b ", "b b", "b  b", " 0", "0 ", "0 1", " adding", "adding ", " 2:0a1a", "2:0a1a ", "2:0a1a, 1a0a", "2:0a1a 1a0a", " b "} {
		for _, row := range wholeTable() {
			if row.behind == "TEXT" {
				checkWrong(t, row.command+" "+text)
			}
		}
	}
	checkWrong(t, "machine ")
	checkWrong(t, "known ")
	for _, d := range wrongDesks() {
		empty := d
		empty.First = nil
		checkLine(t, d, "first ", empty, "-")
		empty = d
		empty.Second = nil
		checkLine(t, d, "second ", empty, "-")
		checkLine(t, d, "section ", d, wordText(d.Machine, d.First))
		checkLine(t, d, "act ", d, "")
	}
}

// TestNumbers has texts that are no numbers of a line. Those of ten digits and more would be in the range of functions
// if they overflowed.
func TestNumbers(t *testing.T) {
	texts := []string{
		"00", "01", "02", "000", "0000000001", "-0", "+0", "-1", "+1", "-2", "+2", "--1", "1-", "0x1", "0b1", "0o1", "1_0", "1e0", "1.", "1.0", "1,", "b", "one", "\u0661", "\uff11", "\u00b9", "1\x00", "\x001", "1\t", "\t1", "1\r",
		"1000000000", "4294967297", "9223372036854775807", "9223372036854775808", "18446744073709551616", "18446744073709551617", "36893488147419103234", strings.Repeat("0", 9), strings.Repeat("0", 5000) + "1", strings.Repeat("1", 5000), "\xff",
	}
	for _, n := range farNumbers {
		texts = append(texts, strconv.FormatInt(n, 10))
	}
	for _, row := range wholeTable() {
		if row.behind == "N" {
			for _, text := range texts {
				checkWrong(t, row.command+" "+text)
			}
			// Numbers that no function accepts.
			for _, text := range []string{"41", "99", "100", "999999999"} {
				checkWrong(t, row.command+" "+text)
			}
		}
	}
	for _, d := range wrongDesks() {
		checkLine(t, d, "power 0", impl.Desk{Machine: d.Machine, Second: d.Second}, "-")
		checkLine(t, d, "level 0", d, "1")
		checkLine(t, d, "sizes 0", d, "1")
	}
}

// refusedCase is a line whose function returns a code on a desk.
type refusedCase struct {
	name string
	desk impl.Desk
	line string
	code int64
}

func refusedCases() []refusedCase {
	full := strings.Repeat("b", impl.MaxGroup)
	grigorchuk := func(g, h string) impl.Desk { return deskOf(grigorchukText, g, h) }
	random := func(text string, n int64) impl.Desk {
		m := must(impl.ParseMachine(text))
		d := dice(3)
		return impl.Desk{Machine: m, First: randomGroup(&d, m, n), Second: []int64{1}}
	}
	squares := deskOf(endlessSquares[0], "aa", "b")
	endless := random(lamplighter, impl.MaxGroup)
	return []refusedCase{
		{"machine", grigorchuk("b", "c"), "machine 2:0a1b", impl.ErrSyntax},
		{"machine of words", grigorchuk("b", "c"), "machine adding", impl.ErrSyntax},
		{"known", grigorchuk("b", "c"), "known 2:0a1a", impl.ErrNotFound},
		{"nuclear", endless, "nuclear", impl.ErrLimit},
		{"nucleus", endless, "nucleus", impl.ErrLimit},
		{"first", grigorchuk("b", "c"), "first f", impl.ErrSyntax},
		{"first of 41", grigorchuk("b", "c"), "first " + full + "b", impl.ErrSyntax},
		{"second", grigorchuk("b", "c"), "second -", impl.ErrSyntax},
		{"second of 41", grigorchuk("b", "c"), "second " + full + "b", impl.ErrSyntax},
		{"times", grigorchuk(full, "c"), "times", impl.ErrLimit},
		{"commutator", grigorchuk(full[:20], "c"), "commutator", impl.ErrLimit},
		{"power beyond 40", grigorchuk("", "c"), "power 41", impl.ErrRange},
		{"power of 42", grigorchuk("bc", "c"), "power 21", impl.ErrLimit},
		{"section", grigorchuk("b", "c"), "section 012", impl.ErrInvalid},
		{"section of 41", grigorchuk("b", "c"), "section " + strings.Repeat("1", impl.MaxWord+1), impl.ErrInvalid},
		{"act", grigorchuk("b", "c"), "act 2", impl.ErrInvalid},
		{"act of 41", grigorchuk("b", "c"), "act " + strings.Repeat("1", impl.MaxWord+1), impl.ErrInvalid},
		{"trivial", squares, "trivial", impl.ErrLimit},
		{"equal", deskOf(endlessSquares[0], "a", "A"), "equal", impl.ErrLimit},
		{"differ", grigorchuk("cde", ""), "differ", impl.ErrNotFound},
		{"states", endless, "states", impl.ErrLimit},
		{"order", squares, "order", impl.ErrLimit},
		{"level", grigorchuk("b", "c"), "level 6", impl.ErrRange},
		{"generators", squares, "generators", impl.ErrLimit},
		{"sizes beyond 5", grigorchuk("b", "c"), "sizes 6", impl.ErrRange},
		{"sizes of 201", endless, "sizes 5", impl.ErrLimit},
		{"shortest beyond 5", grigorchuk("b", "c"), "shortest 6", impl.ErrRange},
		{"shortest of 4", grigorchuk("bebe", "c"), "shortest 3", impl.ErrNotFound},
		{"shortest of no machine", endless, "shortest 0", impl.ErrLimit},
		{"abelian", squares, "abelian", impl.ErrLimit},
	}
}

// TestRefusedLines checks first, by the table, that the function returns the code.
func TestRefusedLines(t *testing.T) {
	for _, c := range refusedCases() {
		command, text, _ := strings.Cut(c.line, " ")
		for _, row := range wholeTable() {
			if row.command == command {
				after := c.desk
				n, _ := strconv.ParseInt(text, 10, 64)
				_, code := row.do(&after, text, n)
				sameCode(t, c.name, code, c.code)
			}
		}
		checkLine(t, c.desk, c.line, c.desk, "error")
	}
}

// TestLimitsAreMet has lines next to those that are refused.
func TestLimitsAreMet(t *testing.T) {
	m, full := grigorchukText, strings.Repeat("b", impl.MaxGroup)
	checkLine(t, deskOf(m, full[1:], "c"), "times", deskOf(m, full[1:]+"c", "c"), full[1:]+"c")
	checkLine(t, deskOf(m, full[:19], "c"), "commutator", deskOf(m, strings.Repeat("B", 19)+"C"+full[:19]+"c", "c"), strings.Repeat("B", 19)+"C"+full[:19]+"c")
	checkLine(t, deskOf(m, "bc", "c"), "power 20", deskOf(m, strings.Repeat("bc", 20), "c"), strings.Repeat("bc", 20))
	checkLine(t, deskOf(m, "", "c"), "first "+full, deskOf(m, full, "c"), full)
	checkLine(t, deskOf(m, "b", "c"), "act "+strings.Repeat("1", 40), deskOf(m, "b", "c"), "0"+strings.Repeat("1", 39))
	checkLine(t, deskOf(m, "bebe", "c"), "shortest 4", deskOf(m, "bebe", "c"), "bebe")
	checkLine(t, deskOf(m, "bebebebe", "c"), "shortest 0", deskOf(m, "", "c"), "-")
	checkLine(t, deskOf(m, "cde", "c"), "equal", deskOf(m, "cde", "c"), "no")
	checkLine(t, deskOf(m, "cd", "E"), "equal", deskOf(m, "cd", "E"), "yes")
	checkLine(t, deskOf(lamplighter, "Ab", "AAba"), "differ", deskOf(lamplighter, "Ab", "AAba"), "00")
	checkLine(t, deskOf(lamplighter, "a", "b"), "sizes 4", deskOf(lamplighter, "a", "b"), "1 4 10 24 53")
}
