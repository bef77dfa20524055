package tests

import (
	"fmt"
	"slices"
	"strings"
	"testing"

	"loop.example/g01244/impl"
)

// outcome is a code, and whether all other results are zero values.
type outcome struct {
	code int64
	zero bool
}

var (
	groupInvalid = outcome{impl.ErrInvalid, true}
	groupRange   = outcome{impl.ErrRange, true}
)

func listOutcome(list []int64, code int64) outcome {
	return outcome{code, len(list) == 0}
}

// singleOutcomes calls the functions of one group word.
func singleOutcomes(m impl.Machine, g []int64) map[string]outcome {
	result := map[string]outcome{
		"NormalWord":  listOutcome(impl.NormalWord(m, g)),
		"InverseWord": listOutcome(impl.InverseWord(m, g)),
	}
	images, sections, code := impl.WreathOf(m, g)
	result["WreathOf"] = outcome{code, len(images) == 0 && len(sections) == 0}
	trivial, code := impl.IsTrivialWord(m, g)
	result["IsTrivialWord"] = outcome{code, !trivial}
	k, code := impl.MachineOfWord(m, g)
	result["MachineOfWord"] = outcome{code, k == impl.Machine{}}
	text, code := impl.GroupText(m, g)
	result["GroupText"] = outcome{code, text == ""}
	return result
}

// pairOutcomes calls the functions of two group words.
func pairOutcomes(m impl.Machine, g, h []int64) map[string]outcome {
	result := map[string]outcome{
		"MultiplyWords": listOutcome(impl.MultiplyWords(m, g, h)),
		"CommutatorOf":  listOutcome(impl.CommutatorOf(m, g, h)),
	}
	equal, code := impl.AreEqualWords(m, g, h)
	result["AreEqualWords"] = outcome{code, !equal}
	w, code := impl.FirstDifference(m, g, h)
	result["FirstDifference"] = outcome{code, w == ""}
	return result
}

// wordOutcomes calls the functions of a group word and a word.
func wordOutcomes(m impl.Machine, g []int64, w string) map[string]outcome {
	image, code := impl.ImageOf(m, g, w)
	return map[string]outcome{
		"ImageOf":   {code, image == ""},
		"SectionOf": listOutcome(impl.SectionOf(m, g, w)),
	}
}

// numberOutcomes calls the functions of a group word and a number.
func numberOutcomes(m impl.Machine, g []int64, n int64) map[string]outcome {
	return map[string]outcome{
		"PowerWord":     listOutcome(impl.PowerWord(m, g, n)),
		"PermutationOf": listOutcome(impl.PermutationOf(m, g, n)),
	}
}

func allAre(t *testing.T, what string, got map[string]outcome, want outcome) {
	t.Helper()
	for name, o := range got {
		if o != want {
			t.Errorf("%s: %s: %v", what, name, o)
		}
	}
}

func TestGroupErrorsOfMachines(t *testing.T) {
	for name, m := range badMachines() {
		for _, g := range [][]int64{nil, {1}, {0}, slices.Repeat([]int64{1}, 41)} {
			allAre(t, name, singleOutcomes(m, g), groupInvalid)
			allAre(t, name, pairOutcomes(m, g, nil), groupInvalid)
			allAre(t, name, pairOutcomes(m, []int64{1}, g), groupInvalid)
			for _, w := range []string{"", "0", "x", strings.Repeat("0", 41)} {
				allAre(t, name, wordOutcomes(m, g, w), groupInvalid)
			}
			for _, n := range append([]int64{-41, -1, 0, 1, 6, 41}, farNumbers...) {
				allAre(t, name, numberOutcomes(m, g, n), groupInvalid)
			}
		}
	}
}

func TestGroupErrorsOfGroups(t *testing.T) {
	for _, m := range someMachines(t) {
		for _, g := range badGroups(m) {
			what := fmt.Sprintf("%d states, %.45v", m.States, g)
			allAre(t, what, singleOutcomes(m, g), groupInvalid)
			for _, h := range [][]int64{nil, {1}, slices.Repeat([]int64{1}, impl.MaxGroup), {0}} {
				allAre(t, what, pairOutcomes(m, g, h), groupInvalid)
				allAre(t, what, pairOutcomes(m, h, g), groupInvalid)
			}
			for _, w := range []string{"", "0", "x"} {
				allAre(t, what, wordOutcomes(m, g, w), groupInvalid)
			}
			for _, n := range append([]int64{-41, -1, 0, 1, 6, 41}, farNumbers...) {
				allAre(t, what, numberOutcomes(m, g, n), groupInvalid)
			}
		}
	}
}

func TestGroupErrorsOfWords(t *testing.T) {
	for _, text := range machineTexts {
		m := parse(t, text)
		for _, w := range badWords(m.Letters) {
			for _, g := range [][]int64{nil, {1}, {-1}, slices.Repeat([]int64{1}, impl.MaxGroup)} {
				allAre(t, text+" "+w[:min(len(w), 45)], wordOutcomes(m, g, w), groupInvalid)
			}
		}
	}
}

func TestGroupErrorsOfNumbers(t *testing.T) {
	for _, text := range machineTexts {
		m := parse(t, text)
		for _, g := range [][]int64{nil, {1}, {-1}, slices.Repeat([]int64{1}, impl.MaxGroup)} {
			for _, n := range append([]int64{-41, 41, 42}, farNumbers...) {
				allAre(t, text, numberOutcomes(m, g, n), groupRange)
			}
			for _, n := range []int64{-40, -1, 6, 40} {
				if got := numberOutcomes(m, g, n)["PermutationOf"]; got != groupRange {
					t.Errorf("%s: PermutationOf(%v, %d): %v", text, g, n, got)
				}
			}
		}
	}
}

// TestArgumentsAreLeft gives words with spare memory behind them, which no function may change.
func TestArgumentsAreLeft(t *testing.T) {
	m := parse(t, "2:0a1a,1a0b")
	memory := slices.Repeat([]int64{2, -1, 2, 7}, 20)
	before := slices.Clone(memory)
	g, h := memory[:3:20], memory[20:23:40]
	singleOutcomes(m, g)
	pairOutcomes(m, g, h)
	pairOutcomes(m, h, g)
	pairOutcomes(m, g, g)
	wordOutcomes(m, g, "0101")
	for n := int64(-5); n <= 5; n++ {
		numberOutcomes(m, g, n)
	}
	impl.IsGroupWord(m, g)
	if !slices.Equal(memory, before) {
		t.Errorf("arguments were changed: %v", memory)
	}
}

// TestGroupResultsAreNew spoils results, with the memory behind them: neither the arguments, nor
// other results, nor those of a second call may notice.
func TestGroupResultsAreNew(t *testing.T) {
	m := parse(t, "3:0a1a2a,1a2a0b")
	g, h := []int64{2, 2, -2, 2}, []int64{-2, 1}
	for range 2 {
		_, sections, _ := impl.WreathOf(m, g)
		images, more, _ := impl.WreathOf(m, g)
		lists := [][]int64{
			must(impl.NormalWord(m, g)), must(impl.SectionOf(m, g, "")), must(impl.SectionOf(m, g, "2")), must(impl.InverseWord(m, g)),
			must(impl.MultiplyWords(m, g, nil)), must(impl.MultiplyWords(m, nil, g)), must(impl.MultiplyWords(m, g, h)),
			must(impl.PowerWord(m, g, 1)), must(impl.PowerWord(m, g, -1)), must(impl.PowerWord(m, g, 2)), must(impl.CommutatorOf(m, g, h)), must(impl.CommutatorOf(m, nil, h)),
			must(impl.PermutationOf(m, g, 1)), must(impl.ParseGroup(m, "bbBb")), images, sections[0], sections[1], sections[2], more[0], more[1], more[2],
		}
		want := [][]int64{
			{2, 2}, {2, 2, -2, 2}, {2, 1, -1, 1}, {-2, 2, -2, -2},
			{2, 2, -2, 2}, {2, 2, -2, 2}, {2, 2, -2, 2, -2, 1},
			{2, 2, -2, 2}, {-2, 2, -2, -2}, {2, 2, -2, 2, 2, 2, -2, 2}, {-2, 2, -2, -2, -1, 2, 2, 2, -2, 2, -2, 1}, {-1, 2, -2, 1},
			{2, 0, 1}, {2, 2, -2, 2}, {2, 0, 1}, {1, 1, -1, 1}, {1, 2, -2, 2}, {2, 1, -1, 1}, {1, 1, -1, 1}, {1, 2, -2, 2}, {2, 1, -1, 1},
		}
		checkAndSpoil(t, lists, want)
	}
	if !slices.Equal(g, []int64{2, 2, -2, 2}) || !slices.Equal(h, []int64{-2, 1}) {
		t.Errorf("arguments became %v, %v", g, h)
	}
}
