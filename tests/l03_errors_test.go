package tests

import (
	"fmt"
	"slices"
	"strings"
	"testing"

	"loop.example/g01244/impl"
)

// portraitOutcomes calls the functions of one portrait.
func portraitOutcomes(d, n int64, list []int64) map[string]outcome {
	order, orderCode := impl.OrderOfPortrait(d, n, list)
	one, oneCode := impl.IsOneCycle(d, n, list)
	return map[string]outcome{
		"InvertPortrait":        listOutcome(impl.InvertPortrait(d, n, list)),
		"PermutationOfPortrait": listOutcome(impl.PermutationOfPortrait(d, n, list)),
		"SignsOf":               listOutcome(impl.SignsOf(d, n, list)),
		"OrderOfPortrait":       {orderCode, order == 0},
		"IsOneCycle":            {oneCode, !one},
	}
}

// portraitWordOutcomes calls the functions of a portrait and a word.
func portraitWordOutcomes(d, n int64, list []int64, w string) map[string]outcome {
	image, code := impl.ActPortrait(d, n, list, w)
	return map[string]outcome{
		"ActPortrait":       {code, image == ""},
		"SectionOfPortrait": listOutcome(impl.SectionOfPortrait(d, n, list, w)),
	}
}

// portraitPairOutcomes calls the function of two portraits with each of two lists as the first one.
func portraitPairOutcomes(d, n int64, a, b []int64) map[string]outcome {
	return map[string]outcome{
		"MultiplyPortraits":              listOutcome(impl.MultiplyPortraits(d, n, a, b)),
		"MultiplyPortraits, other order": listOutcome(impl.MultiplyPortraits(d, n, b, a)),
	}
}

// TestPortraitErrorsOfRanges asks with d or n out of their ranges, which comes ahead of all else.
func TestPortraitErrorsOfRanges(t *testing.T) {
	type numbers struct{ d, n int64 }
	var wrong []numbers
	for _, far := range append([]int64{-3, -2, -1, 0, 1, 4, 5, 6}, farNumbers...) {
		for k := int64(1); k <= 4; k++ {
			wrong = append(wrong, numbers{far, k})
			if far < 1 || far > 4 {
				wrong = append(wrong, numbers{2, far}, numbers{3, far}, numbers{far, far})
			}
		}
	}
	for _, o := range wrong {
		for _, length := range []int{0, 1, 2, 3, 4, 5, 7, 13, 15, 21, 31, 40, 121} {
			list := make([]int64, length)
			what := fmt.Sprintf("%v, %d numbers", o, length)
			allAre(t, what, portraitOutcomes(o.d, o.n, list), groupRange)
			allAre(t, what, portraitPairOutcomes(o.d, o.n, list, []int64{-1}), groupRange)
			for _, w := range []string{"", "0", "x", "00000", strings.Repeat("0", 41)} {
				allAre(t, what, portraitWordOutcomes(o.d, o.n, list, w), groupRange)
			}
			if got, code := impl.PortraitOfPermutation(o.d, o.n, list); len(got) != 0 || code != impl.ErrRange {
				t.Errorf("%s: PortraitOfPermutation: %v, %d", what, got, code)
			}
		}
	}
}

func TestPortraitErrorsOfLists(t *testing.T) {
	for _, s := range allShapes() {
		d, n, good := s.d, int64(s.n), make([]int64, s.size())
		for _, list := range s.bad() {
			what := fmt.Sprintf("%v, %.45v", s, list)
			allAre(t, what, portraitOutcomes(d, n, list), groupInvalid)
			allAre(t, what, portraitPairOutcomes(d, n, list, good), groupInvalid)
			allAre(t, what, portraitPairOutcomes(d, n, list, list), groupInvalid)
			for _, w := range []string{"", "0", "x", "00000", strings.Repeat("0", 41)} {
				allAre(t, what, portraitWordOutcomes(d, n, list, w), groupInvalid)
			}
		}
		allAre(t, "nil", portraitOutcomes(d, n, nil), groupInvalid)
		allAre(t, "nil", portraitPairOutcomes(d, n, nil, good), groupInvalid)
		allAre(t, "nil", portraitWordOutcomes(d, n, nil, ""), groupInvalid)
	}
}

// TestPortraitArgumentsAreLeft gives portraits with spare memory behind them, which no function may
// change.
func TestPortraitArgumentsAreLeft(t *testing.T) {
	memory := []int64{3, 1, 4, 2, 7, 7, 7, 7, 5, 0, 2, 1, 8, 8, 8, 8, 1, 2, 0, 9, 9, 9, 3, 4, 5, 6, 7, 8, 1, 2, 0, 6, 6, 6}
	before := slices.Clone(memory)
	a, b := memory[:4:8], memory[8:12:16]
	portraitOutcomes(3, 2, a)
	portraitPairOutcomes(3, 2, a, b)
	portraitPairOutcomes(3, 2, a, a)
	for _, w := range []string{"", "1", "20"} {
		portraitWordOutcomes(3, 2, a, w)
	}
	impl.IsPortrait(3, 2, b)
	if number := must(impl.PermutationNumber(memory[16:19:22])); number != 3 {
		t.Errorf("PermutationNumber = %d", number)
	}
	if list := must(impl.PortraitOfPermutation(3, 2, memory[22:31])); !slices.Equal(list, []int64{3, 0, 0, 3}) {
		t.Errorf("PortraitOfPermutation = %v", list)
	}
	if !slices.Equal(memory, before) {
		t.Errorf("arguments were changed: %v", memory)
	}
}

// TestPortraitResultsAreNew spoils results, with the memory behind them: neither the arguments, nor
// other results, nor those of a second call may notice.
func TestPortraitResultsAreNew(t *testing.T) {
	m := parse(t, "3:0a1a2a,1a2a0b")
	a, neutral := []int64{3, 1, 4, 2}, []int64{0, 0, 0, 0}
	for range 2 {
		lists := [][]int64{
			must(impl.PortraitOf(m, 1, 2)), must(impl.MultiplyPortraits(3, 2, a, neutral)), must(impl.MultiplyPortraits(3, 2, neutral, a)),
			must(impl.InvertPortrait(3, 2, neutral)), must(impl.InvertPortrait(3, 2, a)), must(impl.SectionOfPortrait(3, 2, a, "")), must(impl.SectionOfPortrait(3, 2, a, "1")),
			must(impl.PermutationOfPortrait(3, 2, neutral)), must(impl.PortraitOfPermutation(3, 1, []int64{2, 0, 1})), must(impl.SignsOf(3, 2, a)),
		}
		want := [][]int64{{3, 0, 0, 3}, {3, 1, 4, 2}, {3, 1, 4, 2}, {0, 0, 0, 0}, {4, 2, 1, 3}, {3, 1, 4, 2}, {4}, {0, 1, 2, 3, 4, 5, 6, 7, 8}, {4}, {0, 0}}
		checkAndSpoil(t, lists, want)
	}
	if !slices.Equal(a, []int64{3, 1, 4, 2}) || !slices.Equal(neutral, make([]int64, 4)) {
		t.Errorf("arguments became %v, %v", a, neutral)
	}
}
