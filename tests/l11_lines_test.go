package tests

import (
	"strings"
	"testing"

	"loop.example/g01244/impl"
)

const grigorchukText = "2:0a1a,1a0a,0b1d,0b1e,0a1c"

// lineCase is a line with its output, and the desk after it: the text of its machine and of its group words, or
// nothing, if it is the desk before.
type lineCase struct {
	line   string
	output string
	after  []string
}

func checkCases(t *testing.T, before impl.Desk, cases []lineCase) {
	t.Helper()
	met := map[string]bool{}
	for _, c := range cases {
		after := before
		if c.after != nil {
			after = deskOf(c.after[0], c.after[1], c.after[2])
		}
		checkLine(t, before, c.line, after, c.output)
		command, _, _ := strings.Cut(c.line, " ")
		met[command] = true
	}
	for _, row := range wholeTable() {
		if !met[row.command] {
			t.Errorf("there is no line with %s", row.command)
		}
	}
}

func TestNewDesk(t *testing.T) {
	for range 2 {
		d := impl.NewDesk()
		if deskText(d) != grigorchukText+" - -" || len(d.First) != 0 || len(d.Second) != 0 || !impl.IsDesk(d) {
			t.Errorf("NewDesk() = %v", d)
		}
	}
}

func TestTableOnTheNewDesk(t *testing.T) {
	m := grigorchukText
	checkCases(t, impl.NewDesk(), []lineCase{
		{"machine 2:0a1a,1a0b", "2:0a1a,1a0b", []string{"2:0a1a,1a0b", "", ""}},
		{"known hanoi", "3:0a1a2a,1a0a2b,2a1c0a,0d2a1a", []string{"3:0a1a2a,1a0a2b,2a1c0a,0d2a1a", "", ""}},
		{"inverse", m, nil},
		{"minimal", m, nil},
		{"nuclear", "2:0a1a,0c1d,1a0a,0c1e,0a1b", []string{"2:0a1a,0c1d,1a0a,0c1e,0a1b", "", ""}},
		{"first be", "be", []string{m, "be", ""}},
		{"second ABCDE", "ABCDE", []string{m, "", "ABCDE"}},
		{"swap", "-", nil},
		{"times", "-", nil},
		{"commutator", "-", nil},
		{"invert", "-", nil},
		{"normal", "-", nil},
		{"power 40", "-", nil},
		{"section 0110", "-", nil},
		{"show", m, nil},
		{"word", "-", nil},
		{"other", "-", nil},
		{"act 0110", "0110", nil},
		{"trivial", "yes", nil},
		{"equal", "yes", nil},
		{"differ", "error", nil},
		{"states", "1", nil},
		{"nucleus", "- c b d e", nil},
		{"order", "1", nil},
		{"level 5", "1", nil},
		{"generators", "b c d e", nil},
		{"sizes 3", "1 4 6 12", nil},
		{"shortest 0", "-", nil},
		{"abelian", "no", nil},
		{"reset", "ok", nil},
	})
}

// TestTableOnAnAddingDesk has the infinite cyclic group: bab adds 2 to numbers.
func TestTableOnAnAddingDesk(t *testing.T) {
	m := "2:0a1a,1a0b"
	checkCases(t, deskOf(m, "bab", "B"), []lineCase{
		{"machine 2:0a1a,1a0b", m, []string{m, "", ""}},
		{"known adding", m, []string{m, "", ""}},
		{"inverse", "2:0a1a,1b0a", []string{"2:0a1a,1b0a", "", ""}},
		{"minimal", m, []string{m, "", ""}},
		{"nuclear", "2:0a1a,1a0b,1c0a", []string{"2:0a1a,1a0b,1c0a", "", ""}},
		{"first ", "-", []string{m, "", "B"}},
		{"first Bb", "Bb", []string{m, "Bb", "B"}},
		{"second ", "-", []string{m, "bab", ""}},
		{"second a", "a", []string{m, "bab", "a"}},
		{"swap", "B", []string{m, "B", "bab"}},
		{"times", "babB", []string{m, "babB", "B"}},
		{"commutator", "BABbbabB", []string{m, "BABbbabB", "B"}},
		{"invert", "BAB", []string{m, "BAB", "B"}},
		{"normal", "bb", []string{m, "bb", "B"}},
		{"power 0", "-", []string{m, "", "B"}},
		{"power 1", "bab", nil},
		{"power 3", "babbabbab", []string{m, "babbabbab", "B"}},
		{"section 1", "baa", []string{m, "baa", "B"}},
		{"section ", "bab", nil},
		{"show", m, nil},
		{"word", "bab", nil},
		{"other", "B", nil},
		{"act 0110", "0001", nil},
		{"act ", "", nil},
		{"trivial", "no", nil},
		{"equal", "no", nil},
		{"differ", "0", nil},
		{"states", "3", nil},
		{"nucleus", "- b B", nil},
		{"order", "0", nil},
		{"level 0", "1", nil},
		{"level 5", "16", nil},
		{"generators", "b B", nil},
		{"sizes 0", "1", nil},
		{"sizes 5", "1 2 2 2 2 2", nil},
		{"shortest 2", "bb", []string{m, "bb", "B"}},
		{"shortest 1", "error", nil},
		{"abelian", "yes", nil},
		{"reset", "ok", []string{grigorchukText, "", ""}},
	})
}

// TestTableOnATernaryDesk has a machine of 3 letters that is not minimal: e is equal to b, and a and f are trivial.
func TestTableOnATernaryDesk(t *testing.T) {
	m := "3:0a1a2a,1a2a0a,0b1c2d,2a0a1a,1a2f0a,0f1f2a"
	gupta := "3:0a1a2a,1a2a0a,0b1c2d,2a0a1a"
	checkCases(t, deskOf(m, "ecf", "EEE"), []lineCase{
		{"machine " + gupta, gupta, []string{gupta, "", ""}},
		{"known gupta", gupta, []string{gupta, "", ""}},
		{"inverse", "3:0a1a2a,2a0a1a,0b1c2d,1a2a0a,2a0a1f,0f1f2a", []string{"3:0a1a2a,2a0a1a,0b1c2d,1a2a0a,2a0a1f,0f1f2a", "", ""}},
		{"minimal", gupta, []string{gupta, "", ""}},
		{"nuclear", "3:0a1a2a,0c1b2d,1a2a0a,2a0a1a,0d1e2c", []string{"3:0a1a2a,0c1b2d,1a2a0a,2a0a1a,0d1e2c", "", ""}},
		{"first fF", "fF", []string{m, "fF", "EEE"}},
		{"second bcd", "bcd", []string{m, "ecf", "bcd"}},
		{"swap", "EEE", []string{m, "EEE", "ecf"}},
		{"times", "ecfEEE", []string{m, "ecfEEE", "EEE"}},
		{"commutator", "FCEeeeecfEEE", []string{m, "FCEeeeecfEEE", "EEE"}},
		{"invert", "FCE", []string{m, "FCE", "EEE"}},
		{"normal", "bc", []string{m, "bc", "EEE"}},
		{"power 2", "ecfecf", []string{m, "ecfecf", "EEE"}},
		{"section 0", "acf", []string{m, "acf", "EEE"}},
		{"show", m, nil},
		{"word", "ecf", nil},
		{"other", "EEE", nil},
		{"act 201", "011", nil},
		{"trivial", "no", nil},
		{"equal", "no", nil},
		{"differ", "0", nil},
		{"states", "5", nil},
		{"nucleus", "- c b d C", nil},
		{"order", "9", nil},
		{"level 2", "3", nil},
		{"generators", "b B c C d D", nil},
		{"sizes 2", "1 4 8", nil},
		{"shortest 5", "bc", []string{m, "bc", "EEE"}},
		{"abelian", "no", nil},
		{"reset", "ok", []string{grigorchukText, "", ""}},
	})
}

// TestTableOnATrivialDesk has a group of one element, so that lists of nothing are there.
func TestTableOnATrivialDesk(t *testing.T) {
	m := "2:0b1a,0a1b"
	checkCases(t, deskOf(m, "aB", "b"), []lineCase{
		{"machine 2:0b1a,0a1b", m, []string{m, "", ""}},
		{"known aleshin", "2:1c0b,1b0c,0a1a", []string{"2:1c0b,1b0c,0a1a", "", ""}},
		{"inverse", m, []string{m, "", ""}},
		{"minimal", "2:0a1a", []string{"2:0a1a", "", ""}},
		{"nuclear", "2:0a1a", []string{"2:0a1a", "", ""}},
		{"first aaaa", "aaaa", []string{m, "aaaa", "b"}},
		{"second a", "a", []string{m, "aB", "a"}},
		{"swap", "b", []string{m, "b", "aB"}},
		{"times", "aBb", []string{m, "aBb", "b"}},
		{"commutator", "bABaBb", []string{m, "bABaBb", "b"}},
		{"invert", "bA", []string{m, "bA", "b"}},
		{"normal", "-", []string{m, "", "b"}},
		{"power 2", "aBaB", []string{m, "aBaB", "b"}},
		{"section 0", "bA", []string{m, "bA", "b"}},
		{"show", m, nil},
		{"word", "aB", nil},
		{"other", "b", nil},
		{"act 10", "10", nil},
		{"trivial", "yes", nil},
		{"equal", "yes", nil},
		{"differ", "error", nil},
		{"states", "1", nil},
		{"nucleus", "-", nil},
		{"order", "1", nil},
		{"level 2", "1", nil},
		{"generators", "none", nil},
		{"sizes 2", "1 0 0", nil},
		{"shortest 0", "-", []string{m, "", "b"}},
		{"abelian", "yes", nil},
		{"reset", "ok", []string{grigorchukText, "", ""}},
	})
}

// TestEqualMachinesEmptyWords gives desks the machine that they have.
func TestEqualMachinesEmptyWords(t *testing.T) {
	for _, r := range records {
		before := deskOf(r.text, "aB", "ba")
		empty := impl.Desk{Machine: before.Machine}
		checkLine(t, before, "machine "+r.text, empty, r.text)
		checkLine(t, before, "known "+r.name, empty, r.text)
		checkLine(t, before, "minimal", empty, r.text)
	}
	hanoi := deskOf(records[6].text, "bcd", "dcb")
	checkLine(t, hanoi, "inverse", impl.Desk{Machine: hanoi.Machine}, records[6].text)
	nucleus := deskOf("2:0a1a,0c1d,1a0a,0c1e,0a1b", "bcd", "dcb")
	checkLine(t, nucleus, "nuclear", impl.Desk{Machine: nucleus.Machine}, "2:0a1a,0c1d,1a0a,0c1e,0a1b")
	checkLine(t, deskOf(grigorchukText, "b", "cd"), "reset", impl.NewDesk(), "ok")
}

// TestTableOnManyDesks compares the lines with the functions that the document's table names, and is the first half of
// promise 11.
func TestTableOnManyDesks(t *testing.T) {
	for _, d := range manyDesks(t) {
		for _, line := range goodLines(d.Machine.Letters) {
			after, output := lineBy(d, line)
			checkLine(t, d, line, after, output)
			if got, text := impl.RunLine(d, line); !impl.IsDesk(got) || text == "error" && deskText(got) != deskText(d) {
				t.Errorf("on %s the line %q leads to %v", deskText(d), line, got)
			}
		}
	}
}

// TestLongOutputs has the greatest machine, and group words of the greatest length.
func TestLongOutputs(t *testing.T) {
	m := impl.Machine{Letters: 3, States: 16}
	for q := range m.States {
		m.Out[q], m.Next[q] = [3]byte{1, 2, 0}, [3]byte{byte(q), 15, 0}
	}
	text := must(impl.MachineText(m))
	g := strings.Repeat("pPaAoO", 6) + "pPpP"
	checkLine(t, impl.NewDesk(), "machine "+text, impl.Desk{Machine: m}, text)
	checkLine(t, impl.Desk{Machine: m}, "first "+g, deskOf(text, g, ""), g)
	checkLine(t, impl.Desk{Machine: m}, "second "+g, deskOf(text, "", g), g)
	checkLine(t, deskOf(text, g[:1], g[1:]), "times", deskOf(text, g, g[1:]), g)
	checkLine(t, deskOf(text, "p", ""), "power 40", deskOf(text, strings.Repeat("p", 40), ""), strings.Repeat("p", 40))
	w := strings.Repeat("0212", impl.MaxWord/4)
	checkLine(t, deskOf(text, g, ""), "act "+w, deskOf(text, g, ""), w)
}
