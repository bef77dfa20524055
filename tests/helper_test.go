package tests

import (
	"fmt"
	"math"
	"slices"
	"strings"
	"testing"

	"loop.example/g01244/impl"
)

// farNumbers lie outside every range of the document.
var farNumbers = []int64{math.MinInt64, math.MinInt64 + 1, -1 << 32, 1 << 32, math.MaxInt64 - 1, math.MaxInt64}

// parse returns the machine with a text that the test knows to be one.
func parse(t *testing.T, text string) impl.Machine {
	t.Helper()
	m, code := impl.ParseMachine(text)
	if code != impl.ErrNone {
		t.Fatalf("ParseMachine(%q): code %d", text, code)
	}
	return m
}

// dice is a row of numbers that is the same in every run.
type dice uint64

func (d *dice) roll(n int64) int64 {
	*d = *d*6364136223846793005 + 1442695040888963407
	return int64(uint64(*d)>>33) % n
}

// randomMachine makes a machine without the functions under test. Outputs are drawn from the first
// kinds permutations, the lower ones of which are few enough to make equal states likely.
func randomMachine(d *dice, letters int64, states int64, kinds int64) impl.Machine {
	permutations := [][3]byte{{0, 1}, {1, 0}}
	if letters == 3 {
		permutations = [][3]byte{{0, 1, 2}, {1, 2, 0}, {2, 0, 1}, {0, 2, 1}, {2, 1, 0}, {1, 0, 2}}
	}
	m := impl.Machine{Letters: letters, States: states}
	for q := range states {
		m.Out[q] = permutations[d.roll(min(kinds, int64(len(permutations))))]
		for x := range letters {
			m.Next[q][x] = byte(d.roll(states))
		}
	}
	return m
}

// manyMachines returns machines of all sizes, with 2 and 3 letters.
func manyMachines() []impl.Machine {
	d := dice(7)
	var list []impl.Machine
	for letters := int64(2); letters <= 3; letters++ {
		for states := int64(1); states <= impl.MaxStates; states++ {
			for kinds := int64(1); kinds <= 6; kinds++ {
				list = append(list, randomMachine(&d, letters, states, kinds))
			}
		}
	}
	return list
}

// badMachines returns structs that are not machines, each by one fault.
func badMachines() map[string]impl.Machine {
	two := impl.Machine{Letters: 2, States: 2, Next: [16][3]byte{{0, 0}, {0, 1}}, Out: [16][3]byte{{0, 1}, {1, 0}}}
	three := impl.Machine{Letters: 3, States: 2, Next: [16][3]byte{{0, 0, 0}, {0, 0, 1}}, Out: [16][3]byte{{0, 1, 2}, {1, 2, 0}}}
	full := impl.Machine{Letters: 2, States: 16}
	for q := range full.Out {
		full.Out[q] = [3]byte{1, 0}
	}
	bad := map[string]impl.Machine{"zero value": {}}
	put := func(name string, m impl.Machine, spoil func(m *impl.Machine)) {
		spoil(&m)
		bad[name] = m
	}
	put("letters 0", two, func(m *impl.Machine) { m.Letters = 0 })
	put("letters 1", impl.Machine{States: 1}, func(m *impl.Machine) { m.Letters = 1 })
	put("letters 3 for rows of 2", two, func(m *impl.Machine) { m.Letters = 3 })
	put("letters 4", three, func(m *impl.Machine) { m.Letters = 4 })
	put("letters -2", two, func(m *impl.Machine) { m.Letters = -2 })
	put("letters 2 for rows of 3", three, func(m *impl.Machine) { m.Letters = 2 })
	put("no states", impl.Machine{Letters: 2}, func(m *impl.Machine) {})
	put("states -1", impl.Machine{Letters: 2}, func(m *impl.Machine) { m.States = -1 })
	put("states 17", full, func(m *impl.Machine) { m.States = 17 })
	put("fewer states than rows", two, func(m *impl.Machine) { m.States = 1 })
	put("more states than rows", two, func(m *impl.Machine) { m.States = 3 })
	put("next state 2 of 2", two, func(m *impl.Machine) { m.Next[0][1] = 2 })
	put("next state 255", two, func(m *impl.Machine) { m.Next[1][0] = 255 })
	put("next state 16 of 16", full, func(m *impl.Machine) { m.Next[15][1] = 16 })
	put("next state of third letter", three, func(m *impl.Machine) { m.Next[0][2] = 2 })
	put("letter 2 put out of 2", two, func(m *impl.Machine) { m.Out[1] = [3]byte{2, 0} })
	put("letter 3 put out of 3", three, func(m *impl.Machine) { m.Out[1] = [3]byte{1, 3, 0} })
	put("letter 255", two, func(m *impl.Machine) { m.Out[0][1] = 255 })
	put("letter 0 put out twice", two, func(m *impl.Machine) { m.Out[0] = [3]byte{0, 0} })
	put("letter 1 put out twice", two, func(m *impl.Machine) { m.Out[1] = [3]byte{1, 1} })
	put("first and last letter the same", three, func(m *impl.Machine) { m.Out[1] = [3]byte{1, 2, 1} })
	put("second and last letter the same", three, func(m *impl.Machine) { m.Out[0] = [3]byte{0, 2, 2} })
	put("first and second letter the same", three, func(m *impl.Machine) { m.Out[0] = [3]byte{1, 1, 2} })
	put("output of a third letter", two, func(m *impl.Machine) { m.Out[0][2] = 2 })
	put("next state of a third letter", two, func(m *impl.Machine) { m.Next[1][2] = 1 })
	put("output behind the states", two, func(m *impl.Machine) { m.Out[2] = [3]byte{0, 1} })
	put("next state behind the states", two, func(m *impl.Machine) { m.Next[15][0] = 1 })
	for _, n := range farNumbers {
		put(fmt.Sprint("letters ", n), two, func(m *impl.Machine) { m.Letters = n })
		put(fmt.Sprint("states ", n), full, func(m *impl.Machine) { m.States = n })
	}
	return bad
}

// badWords returns texts that are no words for d letters.
func badWords(d int64) []string {
	return []string{
		string(rune('0' + d)), "0" + string(rune('0'+d)), string(rune('0'+d)) + "0", "/", ":", "a", " ", "0 ", " 0", "-1", "0\n", "\x00", "\xff",
		"\u0660", "\uff10", "0,1", strings.Repeat("0", impl.MaxWord+1), strings.Repeat("1", 100000),
		strings.Repeat("0", impl.MaxWord-1) + string(rune('0'+d)),
	}
}

// wordsOf returns all words of n letters out of d, in lexicographic order.
func wordsOf(d int64, n int) []string {
	list := []string{""}
	for range n {
		var longer []string
		for _, w := range list {
			for x := range d {
				longer = append(longer, w+string(rune('0'+x)))
			}
		}
		list = longer
	}
	return list
}

// wordsUpTo returns all words of at most n letters out of d.
func wordsUpTo(d int64, n int) []string {
	var list []string
	for k := 0; k <= n; k++ {
		list = append(list, wordsOf(d, k)...)
	}
	return list
}

// longWords returns some words of up to MaxWord letters.
func longWords(d int64) []string {
	r := dice(99)
	list := []string{strings.Repeat("0", impl.MaxWord), strings.Repeat("1", impl.MaxWord)}
	for n := range impl.MaxWord + 1 {
		w := make([]byte, n)
		for i := range w {
			w[i] = byte('0' + r.roll(d))
		}
		list = append(list, string(w))
	}
	return list
}

// led is the document's definition of what a state leads a word to, step by step.
func led(m impl.Machine, q int64, w string) string {
	if w == "" {
		return ""
	}
	x := w[0] - '0'
	return string(rune('0'+m.Out[q][x])) + led(m, int64(m.Next[q][x]), w[1:])
}

// sectionOf is the document's definition of a section.
func sectionOf(m impl.Machine, q int64, w string) int64 {
	if w == "" {
		return q
	}
	return sectionOf(m, int64(m.Next[q][w[0]-'0']), w[1:])
}

// equalPairs marks the pairs of equal states, by crossing out pairs that some word tells apart.
func equalPairs(m impl.Machine) [16][16]bool {
	var equal [16][16]bool
	for q := range m.States {
		for r := range m.States {
			equal[q][r] = m.Out[q] == m.Out[r]
		}
	}
	for changed := true; changed; {
		changed = false
		for q := range m.States {
			for r := range m.States {
				for x := range m.Letters {
					if equal[q][r] && !equal[m.Next[q][x]][m.Next[r][x]] {
						equal[q][r] = false
						changed = true
					}
				}
			}
		}
	}
	return equal
}

// chain returns a machine of 16 states of which the state q changes only what stands behind 15 - q
// letters, so that long words alone tell the first states apart.
func chain(letters int64) impl.Machine {
	m := impl.Machine{Letters: letters, States: 16}
	for q := range m.States {
		for x := range letters {
			m.Out[q][x] = byte(x)
			m.Next[q][x] = byte(min(q+1, 15))
		}
	}
	m.Out[15][0], m.Out[15][1] = 1, 0
	return m
}

func sameCode(t *testing.T, what string, got int64, want int64) {
	t.Helper()
	if got != want {
		t.Errorf("%s: code %d, not %d", what, got, want)
	}
}

// checkAndSpoil checks results in order, and overwrites each one behind its check, with the spare
// memory behind it, so that lists that share memory are found.
func checkAndSpoil(t *testing.T, lists [][]int64, want [][]int64) {
	t.Helper()
	for i, list := range lists {
		if !slices.Equal(list, want[i]) {
			t.Errorf("list %d is %v, not %v", i, list, want[i])
		}
		whole := list[:cap(list)]
		for j := range whole {
			whole[j] = 99
		}
	}
}
