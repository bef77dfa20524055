package tests

import (
	"regexp"
	"slices"
	"strconv"
	"strings"
	"testing"

	"loop.example/g01244/impl"
)

// deskOf returns a desk by the texts of its machine and of its group words.
func deskOf(machine, first, second string) impl.Desk {
	m := must(impl.ParseMachine(machine))
	return impl.Desk{Machine: m, First: groupOf(m, first), Second: groupOf(m, second)}
}

// sameDesk compares desks. Empty lists are the same, nil or not.
func sameDesk(t *testing.T, what string, got, want impl.Desk) {
	t.Helper()
	if got.Machine != want.Machine || !slices.Equal(got.First, want.First) || !slices.Equal(got.Second, want.Second) {
		t.Errorf("%s: the desk is %v, not %v", what, got, want)
	}
}

// checkLine compares what a line makes with what it has to make.
func checkLine(t *testing.T, before impl.Desk, line string, after impl.Desk, output string) {
	t.Helper()
	what := "on " + deskText(before) + " the line " + strconv.Quote(line[:min(len(line), 100)])
	got, text := impl.RunLine(before, line)
	if text != output {
		t.Errorf("%s has the output %q, not %q", what, text, output)
	}
	sameDesk(t, what, got, after)
}

// deskText tells a desk.
func deskText(d impl.Desk) string {
	return shown(impl.MachineText(d.Machine)) + " " + wordText(d.Machine, d.First) + " " + wordText(d.Machine, d.Second)
}

// shown returns a text, or tells that there is none.
func shown(text string, code int64) string {
	if code != impl.ErrNone {
		return "(code " + strconv.FormatInt(code, 10) + ")"
	}
	return text
}

// wordText is the document's output of a group word.
func wordText(m impl.Machine, g []int64) string {
	if len(g) == 0 {
		return "-"
	}
	return shown(impl.GroupText(m, g))
}

// tableRow is a row of the document's table, with what stands behind the command: nothing, TEXT, or N. It may
// change the desk also beside another code than ErrNone, for lineBy then takes that back.
type tableRow struct {
	command string
	behind  string
	do      func(d *impl.Desk, text string, n int64) (output string, code int64)
}

func wholeTable() []tableRow {
	return slices.Concat(machineRows(), wordRows(), askingRows())
}

// machineRows are the rows that give M a machine.
func machineRows() []tableRow {
	giveM := func(d *impl.Desk, m impl.Machine, code int64) (string, int64) {
		*d = impl.Desk{Machine: m}
		return shown(impl.MachineText(m)), code
	}
	return []tableRow{
		{"machine", "TEXT", func(d *impl.Desk, text string, _ int64) (string, int64) {
			m, code := impl.ParseMachine(text)
			return giveM(d, m, code)
		}},
		{"known", "TEXT", func(d *impl.Desk, text string, _ int64) (string, int64) {
			m, code := impl.KnownMachine(text)
			return giveM(d, m, code)
		}},
		{"inverse", "", func(d *impl.Desk, _ string, _ int64) (string, int64) {
			m, code := impl.InverseMachine(d.Machine)
			return giveM(d, m, code)
		}},
		{"minimal", "", func(d *impl.Desk, _ string, _ int64) (string, int64) {
			m, _, code := impl.MinimalMachine(d.Machine)
			return giveM(d, m, code)
		}},
		{"nuclear", "", func(d *impl.Desk, _ string, _ int64) (string, int64) {
			m, code := impl.NucleusMachine(d.Machine)
			return giveM(d, m, code)
		}},
		{"reset", "", func(d *impl.Desk, _ string, _ int64) (string, int64) {
			*d = impl.Desk{Machine: must(impl.KnownMachine("grigorchuk"))}
			return "ok", impl.ErrNone
		}},
	}
}

// wordRows are the rows that give G or H a group word.
func wordRows() []tableRow {
	giveG := func(command, behind string, made func(d impl.Desk, text string, n int64) ([]int64, int64)) tableRow {
		return tableRow{command, behind, func(d *impl.Desk, text string, n int64) (string, int64) {
			g, code := made(*d, text, n)
			d.First = g
			return wordText(d.Machine, g), code
		}}
	}
	return []tableRow{
		giveG("first", "TEXT", func(d impl.Desk, text string, _ int64) ([]int64, int64) { return impl.ParseGroup(d.Machine, text) }),
		{"second", "TEXT", func(d *impl.Desk, text string, _ int64) (string, int64) {
			h, code := impl.ParseGroup(d.Machine, text)
			d.Second = h
			return wordText(d.Machine, h), code
		}},
		{"swap", "", func(d *impl.Desk, _ string, _ int64) (string, int64) {
			*d = impl.Desk{Machine: d.Machine, First: d.Second, Second: d.First}
			return wordText(d.Machine, d.First), impl.ErrNone
		}},
		giveG("times", "", func(d impl.Desk, _ string, _ int64) ([]int64, int64) {
			return impl.MultiplyWords(d.Machine, d.First, d.Second)
		}),
		giveG("commutator", "", func(d impl.Desk, _ string, _ int64) ([]int64, int64) {
			return impl.CommutatorOf(d.Machine, d.First, d.Second)
		}),
		giveG("invert", "", func(d impl.Desk, _ string, _ int64) ([]int64, int64) { return impl.InverseWord(d.Machine, d.First) }),
		giveG("normal", "", func(d impl.Desk, _ string, _ int64) ([]int64, int64) { return impl.NormalWord(d.Machine, d.First) }),
		giveG("power", "N", func(d impl.Desk, _ string, n int64) ([]int64, int64) { return impl.PowerWord(d.Machine, d.First, n) }),
		giveG("section", "TEXT", func(d impl.Desk, text string, _ int64) ([]int64, int64) {
			return impl.SectionOf(d.Machine, d.First, text)
		}),
		giveG("shortest", "N", func(d impl.Desk, _ string, n int64) ([]int64, int64) {
			return impl.ShortestWord(d.Machine, d.First, n)
		}),
	}
}

// askingRows are the rows that do nothing.
func askingRows() []tableRow {
	ask := func(command, behind string, told func(m impl.Machine, d impl.Desk, text string, n int64) (string, int64)) tableRow {
		return tableRow{command, behind, func(d *impl.Desk, text string, n int64) (string, int64) { return told(d.Machine, *d, text, n) }}
	}
	return []tableRow{
		ask("show", "", func(m impl.Machine, d impl.Desk, _ string, _ int64) (string, int64) { return impl.MachineText(m) }),
		ask("word", "", func(m impl.Machine, d impl.Desk, _ string, _ int64) (string, int64) {
			return wordText(m, d.First), impl.ErrNone
		}),
		ask("other", "", func(m impl.Machine, d impl.Desk, _ string, _ int64) (string, int64) {
			return wordText(m, d.Second), impl.ErrNone
		}),
		ask("act", "TEXT", func(m impl.Machine, d impl.Desk, text string, _ int64) (string, int64) {
			return impl.ImageOf(m, d.First, text)
		}),
		ask("trivial", "", func(m impl.Machine, d impl.Desk, _ string, _ int64) (string, int64) {
			return yesOrNo(impl.IsTrivialWord(m, d.First))
		}),
		ask("equal", "", func(m impl.Machine, d impl.Desk, _ string, _ int64) (string, int64) {
			return yesOrNo(impl.AreEqualWords(m, d.First, d.Second))
		}),
		ask("differ", "", func(m impl.Machine, d impl.Desk, _ string, _ int64) (string, int64) {
			return impl.FirstDifference(m, d.First, d.Second)
		}),
		ask("states", "", func(m impl.Machine, d impl.Desk, _ string, _ int64) (string, int64) {
			k, code := impl.MachineOfWord(m, d.First)
			return decimal(k.States, code)
		}),
		ask("nucleus", "", func(m impl.Machine, _ impl.Desk, _ string, _ int64) (string, int64) {
			words, code := impl.NucleusOf(m)
			return listText(words, func(g []int64) string { return wordText(m, g) }), code
		}),
		ask("order", "", func(m impl.Machine, d impl.Desk, _ string, _ int64) (string, int64) {
			return decimal(impl.OrderOf(m, d.First))
		}),
		ask("level", "N", func(m impl.Machine, d impl.Desk, _ string, n int64) (string, int64) {
			return decimal(impl.OrderOnLevel(m, d.First, n))
		}),
		ask("generators", "", func(m impl.Machine, _ impl.Desk, _ string, _ int64) (string, int64) {
			numbers, code := impl.GeneratorsOf(m)
			return listText(numbers, func(k int64) string { return wordText(m, []int64{k}) }), code
		}),
		ask("sizes", "N", func(m impl.Machine, _ impl.Desk, _ string, n int64) (string, int64) {
			sizes, code := impl.SphereSizes(m, n)
			return listText(sizes, func(size int64) string { return strconv.Itoa(int(size)) }), code
		}),
		ask("abelian", "", func(m impl.Machine, _ impl.Desk, _ string, _ int64) (string, int64) {
			return yesOrNo(impl.IsAbelianGroup(m))
		}),
	}
}

func yesOrNo(is bool, code int64) (string, int64) {
	return map[bool]string{true: "yes", false: "no"}[is], code
}

func decimal(n int64, code int64) (string, int64) {
	return strconv.Itoa(int(n)), code
}

// listText is the document's output of a list.
func listText[T any](list []T, told func(T) string) string {
	text := ""
	for _, part := range list {
		text += " " + told(part)
	}
	if text == "" {
		return "none"
	}
	return text[1:]
}

var lineNumber = regexp.MustCompile(`\A(0|[1-9][0-9]{0,8})\z`)

// lineBy is what the document says of a line on a desk.
func lineBy(d impl.Desk, line string) (impl.Desk, string) {
	words := strings.Split(line, " ")
	for _, row := range wholeTable() {
		if row.command != words[0] {
			continue
		}
		after, text, n := d, "", int64(0)
		switch {
		case row.behind == "" && len(words) == 1:
		case row.behind == "TEXT" && len(words) > 1:
			text = line[len(words[0])+1:]
		case row.behind == "N" && len(words) == 2 && lineNumber.MatchString(words[1]):
			n = must(strconvNumber(words[1]))
		default:
			return d, "error"
		}
		if output, code := row.do(&after, text, n); code == impl.ErrNone {
			return after, output
		}
		return d, "error"
	}
	return d, "error"
}

func strconvNumber(text string) (int64, int64) {
	n, err := strconv.Atoi(text)
	if err != nil {
		return 0, impl.ErrSyntax
	}
	return int64(n), impl.ErrNone
}

// consoleBy is what the document says of a text that is within the limits.
func consoleBy(text string) (impl.Desk, string) {
	d, outputs := impl.Desk{Machine: must(impl.KnownMachine("grigorchuk"))}, ""
	for _, line := range strings.Split(text, "\n") {
		if line != "" {
			after, output := lineBy(d, line)
			d, outputs = after, outputs+output+"\n"
		}
	}
	return d, outputs
}

// goodLines returns each command with what may stand behind it, for a machine of d letters.
func goodLines(d int64) []string {
	var lines []string
	put := func(command string, behind ...string) {
		for _, text := range behind {
			lines = append(lines, command+" "+text)
		}
	}
	for _, row := range wholeTable() {
		switch {
		case row.behind == "":
			lines = append(lines, row.command)
		case row.behind == "N":
			put(row.command, "0", "1", "2", "3", "4", "5", "6", "13", "40", "41", "100000000", "999999999")
		case row.command == "machine":
			put(row.command, "2:0a1a", "2:1a0a,0b1a", "3:0a1a2a,1b2a0b,0c1c2c", records[3].text)
		case row.command == "known":
			for _, r := range records {
				put(row.command, r.name)
			}
		case row.command == "section" || row.command == "act":
			put(row.command, "", "0", "1", "10", "0110", strings.Repeat("10", impl.MaxWord/2), string(rune('0'+d-1))+"01")
		default:
			put(row.command, "", "a", "A", "ab", "Ba", "bab", "cde", "bebe", "abababababababababababababababababababab")
		}
	}
	return lines
}

// manyDesks returns desks of machines of all sizes, with group words of all lengths.
func manyDesks(t *testing.T) []impl.Desk {
	d := dice(111)
	var list []impl.Desk
	for i, m := range growthMachines(t) {
		if i%3 == 0 {
			list = append(list, impl.Desk{Machine: m, First: randomGroup(&d, m, d.roll(7)), Second: randomGroup(&d, m, d.roll(7))})
		}
		if i%6 == 0 {
			list = append(list, impl.Desk{Machine: m, First: randomGroup(&d, m, d.roll(41)), Second: randomGroup(&d, m, d.roll(41))})
		}
	}
	return append(list, impl.NewDesk())
}
