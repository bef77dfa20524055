package tests

import (
	"fmt"
	"slices"
	"testing"

	"loop.example/g01244/impl"
)

func listsOutcome(lists [][]int64, code int64) outcome {
	return outcome{code, len(lists) == 0}
}

// nucleusOutcomes calls the functions of a machine alone.
func nucleusOutcomes(m impl.Machine) map[string]outcome {
	machine, code := impl.NucleusMachine(m)
	return map[string]outcome{
		"NucleusOf":      listsOutcome(impl.NucleusOf(m)),
		"NucleusMachine": {code, machine == impl.Machine{}},
	}
}

// levelOutcomes calls the functions of a group word and a level.
func levelOutcomes(m impl.Machine, g []int64, n int64) map[string]outcome {
	return map[string]outcome{
		"SectionsOfLevel": listsOutcome(impl.SectionsOfLevel(m, g, n)),
		"SectionLengths":  listOutcome(impl.SectionLengths(m, g, n)),
	}
}

// groupListOutcomes calls the functions of a list, and of a list and a group word.
func groupListOutcomes(m impl.Machine, g []int64, list [][]int64) map[string]outcome {
	closed, closedCode := impl.IsClosedList(m, list)
	depth, depthCode := impl.DepthOfList(m, list)
	in, inCode := impl.IsInList(m, g, list)
	return map[string]outcome{
		"IsClosedList": {closedCode, !closed},
		"DepthOfList":  {depthCode, depth == 0},
		"IsInList":     {inCode, !in},
	}
}

var farLevels = append([]int64{-2, -1, impl.MaxLevel + 1, impl.MaxLevel + 2, 40}, farNumbers...)

func TestNucleusErrorsOfMachines(t *testing.T) {
	for name, m := range badMachines() {
		allAre(t, name, nucleusOutcomes(m), groupInvalid)
		for _, g := range [][]int64{nil, {1}, {0}, slices.Repeat([]int64{1}, impl.MaxGroup+1)} {
			for _, n := range append([]int64{0, 1, impl.MaxLevel}, farLevels...) {
				allAre(t, name, levelOutcomes(m, g, n), groupInvalid)
			}
			allAre(t, name, map[string]outcome{"LastingSections": listsOutcome(impl.LastingSections(m, g))}, groupInvalid)
			for _, list := range [][][]int64{nil, {nil}, {g}, make([][]int64, impl.MaxNucleus), make([][]int64, impl.MaxNucleus+1)} {
				allAre(t, name, groupListOutcomes(m, g, list), groupInvalid)
			}
		}
	}
}

func TestNucleusErrorsOfGroups(t *testing.T) {
	for _, m := range someMachines(t) {
		for _, g := range badGroups(m) {
			what := fmt.Sprintf("%d states, %.45v", m.States, g)
			for _, n := range []int64{0, impl.MaxLevel, -1, impl.MaxLevel + 1} {
				allAre(t, what, levelOutcomes(m, g, n), groupInvalid)
			}
			allAre(t, what, map[string]outcome{"LastingSections": listsOutcome(impl.LastingSections(m, g))}, groupInvalid)
			// Lists with a bad word at some place, the longest of which are too long, too.
			for _, list := range [][][]int64{{g}, {nil, g}, {g, {1}}, append(make([][]int64, impl.MaxNucleus), g), append([][]int64{g}, make([][]int64, 3000)...)} {
				allAre(t, what, groupListOutcomes(m, nil, list), groupInvalid)
			}
			for _, list := range [][][]int64{nil, {nil}, make([][]int64, impl.MaxNucleus+1)} {
				in, code := impl.IsInList(m, g, list)
				allAre(t, what, map[string]outcome{"IsInList": {code, !in}}, groupInvalid)
			}
		}
	}
}

func TestNucleusErrorsOfRanges(t *testing.T) {
	machines := someMachines(t)
	for _, e := range largeElements {
		machines = append(machines, parse(t, e.machine))
	}
	for _, m := range machines {
		full := slices.Repeat([]int64{-m.States}, impl.MaxGroup)
		for _, g := range [][]int64{nil, {1}, full} {
			for _, n := range farLevels {
				allAre(t, fmt.Sprintf("%v, level %d", m, n), levelOutcomes(m, g, n), groupRange)
			}
			for _, n := range []int64{0, impl.MaxLevel} {
				for name, o := range levelOutcomes(m, g, n) {
					if o.code != impl.ErrNone || o.zero {
						t.Errorf("%v: %s(%v, %d): %v", m, name, g, n, o)
					}
				}
			}
		}
		// ErrRange of a list comes ahead of ErrLimit of its words.
		for _, size := range []int{impl.MaxNucleus + 1, impl.MaxNucleus + 2, 1000} {
			allAre(t, fmt.Sprintf("%v, %d words", m, size), groupListOutcomes(m, full, slices.Repeat([][]int64{full}, size)), groupRange)
			allAre(t, fmt.Sprintf("%v, %d words", m, size), groupListOutcomes(m, nil, make([][]int64, size)), groupRange)
		}
	}
}

// TestNucleusArgumentsAreLeft gives words with spare memory behind them, which no function may change.
func TestNucleusArgumentsAreLeft(t *testing.T) {
	m := parse(t, "2:0a1a,1a0b")
	memory := slices.Repeat([]int64{2, -1, 2, 7}, 20)
	before := slices.Clone(memory)
	list := [][]int64{memory[:0:8], memory[8:11:16], memory[16:17:20], {-2}, memory[20:22:30], {7}, {7}}
	kept := slices.Clone(list)
	part := list[:5:6]
	for n := int64(0); n <= impl.MaxLevel; n++ {
		levelOutcomes(m, memory[:3:20], n)
	}
	impl.LastingSections(m, memory[:3:20])
	groupListOutcomes(m, memory[:3:20], part)
	groupListOutcomes(m, part[1], part)
	if !slices.Equal(memory, before) || !sameWords(list, kept) {
		t.Errorf("arguments were changed: %v, %v", memory, list)
	}
}

// TestNucleusResultsAreNew spoils results, with the memory behind them: neither the arguments, nor other
// results, nor those of a second call may notice.
func TestNucleusResultsAreNew(t *testing.T) {
	m := parse(t, "2:0a1a,0a1c,1a0b")
	g, h := []int64{2, 3}, []int64{-2, 3}
	for range 2 {
		checkAndSpoil(t, must(impl.SectionsOfLevel(m, g, 0)), [][]int64{{2, 3}})
		checkAndSpoil(t, must(impl.SectionsOfLevel(m, h, 1)), [][]int64{nil, {-3, 2}})
		checkAndSpoil(t, [][]int64{must(impl.SectionLengths(m, g, 2)), must(impl.SectionLengths(m, g, 2))}, [][]int64{{2, 2, 1}, {2, 2, 1}})
		checkAndSpoil(t, must(impl.LastingSections(m, h)), [][]int64{{-2, 3}, nil, {-3, 2}})
		checkAndSpoil(t, must(impl.NucleusOf(m)), [][]int64{nil, {2}, {3}, {-2}, {-3}, {-2, 3}, {-3, 2}})
	}
	if !slices.Equal(g, []int64{2, 3}) || !slices.Equal(h, []int64{-2, 3}) {
		t.Errorf("arguments became %v, %v", g, h)
	}
}
