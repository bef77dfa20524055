package tests

import (
	"fmt"
	"slices"
	"strings"
	"testing"

	"loop.example/g01244/impl"
)

// stateOrderOutcomes calls the function of a machine alone, and that of a machine and a number.
func stateOrderOutcomes(m impl.Machine, r int64) map[string]outcome {
	torsion, code := impl.TorsionUpTo(m, r)
	return map[string]outcome{
		"OrdersOfStates": listOutcome(impl.OrdersOfStates(m)),
		"TorsionUpTo":    {code, !torsion},
	}
}

// orderOutcomes calls the functions of a group word alone.
func orderOutcomes(m impl.Machine, g []int64) map[string]outcome {
	order, orderCode := impl.OrderOf(m, g)
	proof, proofCode := impl.InfiniteProof(m, g)
	return map[string]outcome{
		"OrderOf":       {orderCode, order == 0},
		"InfiniteProof": {proofCode, proof == impl.Proof{}},
	}
}

// returnOutcomes calls the function of a group word and a letter.
func returnOutcomes(m impl.Machine, g []int64, x int64) map[string]outcome {
	back, k, code := impl.ReturnOf(m, g, x)
	return map[string]outcome{"ReturnOf": {code, len(back) == 0 && k == 0}}
}

// levelOrderOutcomes calls the functions of a group word and a level.
func levelOrderOutcomes(m impl.Machine, g []int64, n int64) map[string]outcome {
	order, orderCode := impl.OrderOnLevel(m, g, n)
	fixed, fixedCode := impl.FixedOfLevel(m, g, n)
	return map[string]outcome{
		"OrderOnLevel": {orderCode, order == 0},
		"FixedOfLevel": {fixedCode, len(fixed) == 0},
	}
}

// periodOutcomes calls the function of a group word and a word.
func periodOutcomes(m impl.Machine, g []int64, w string) map[string]outcome {
	period, code := impl.PeriodOfWord(m, g, w)
	return map[string]outcome{"PeriodOfWord": {code, period == 0}}
}

// groupOutcomes calls all functions of a group word, with letters, levels and words that are in their
// ranges, and that are not.
func groupOutcomes(t *testing.T, what string, m impl.Machine, g []int64, want outcome) {
	t.Helper()
	allAre(t, what, orderOutcomes(m, g), want)
	for _, n := range append([]int64{0, 1, 2, 3}, farLevels...) {
		allAre(t, what, returnOutcomes(m, g, n), want)
		allAre(t, what, levelOrderOutcomes(m, g, n), want)
	}
	for _, w := range []string{"", "0", "10", "x", "01010", "010101", strings.Repeat("0", impl.MaxWord+1)} {
		allAre(t, what, periodOutcomes(m, g, w), want)
	}
}

func TestOrderErrorsOfMachines(t *testing.T) {
	for name, m := range badMachines() {
		for _, r := range append([]int64{0, 1, 3, 4, -1}, farNumbers...) {
			outcomes := stateOrderOutcomes(m, r)
			allAre(t, name, outcomes, groupInvalid)
		}
		for _, g := range [][]int64{nil, {1}, {0}, slices.Repeat([]int64{1}, impl.MaxGroup+1)} {
			groupOutcomes(t, name, m, g, groupInvalid)
		}
	}
}

func TestOrderErrorsOfGroups(t *testing.T) {
	for _, m := range someMachines(t) {
		for _, g := range badGroups(m) {
			groupOutcomes(t, fmt.Sprintf("%d states, %.45v", m.States, g), m, g, groupInvalid)
		}
	}
}

// TestOrderErrorsOfRanges has words of which the order and the returns are not found, too: ErrRange comes
// ahead of ErrLimit.
func TestOrderErrorsOfRanges(t *testing.T) {
	for _, m := range append(someMachines(t), parse(t, "2:1a0a,0b1b")) {
		for _, g := range [][]int64{nil, {1}, slices.Repeat([]int64{m.States}, impl.MaxGroup-1)} {
			what := fmt.Sprintf("%v, %v", m, g)
			for _, x := range append([]int64{-2, -1, m.Letters, m.Letters + 1, 48, 256}, farNumbers...) {
				allAre(t, what, returnOutcomes(m, g, x), groupRange)
			}
			for _, n := range farLevels {
				allAre(t, what, levelOrderOutcomes(m, g, n), groupRange)
			}
			for _, w := range []string{"000000", "010101", strings.Repeat("1", impl.MaxWord)} {
				allAre(t, what, periodOutcomes(m, g, w), groupRange)
			}
			// What is at the limits has no such error.
			for name, o := range levelOrderOutcomes(m, g, impl.MaxLevel) {
				if o.code != impl.ErrNone {
					t.Errorf("%s: %s: %v", what, name, o)
				}
			}
			if o := periodOutcomes(m, g, "01010")["PeriodOfWord"]; o.code != impl.ErrNone || o.zero {
				t.Errorf("%s: %v", what, o)
			}
			if o := returnOutcomes(m, g, m.Letters-1)["ReturnOf"]; o.code == impl.ErrRange {
				t.Errorf("%s: %v", what, o)
			}
		}
		for _, r := range append([]int64{-2, -1, 4, 5}, farNumbers...) {
			torsion, code := impl.TorsionUpTo(m, r)
			allAre(t, fmt.Sprintf("%v, %d", m, r), map[string]outcome{"TorsionUpTo": {code, !torsion}}, groupRange)
		}
		if _, code := impl.TorsionUpTo(m, 0); (code == impl.ErrRange) != (m.States > 5) {
			t.Errorf("TorsionUpTo(%v, 0): code %d", m, code)
		}
	}
}

func TestOrderErrorsOfWords(t *testing.T) {
	for _, m := range someMachines(t) {
		for _, w := range append(badWords(m.Letters), "00000x", "x00000") {
			for _, g := range [][]int64{nil, {1}, {-m.States}} {
				allAre(t, fmt.Sprintf("%v, %.45q", m, w), periodOutcomes(m, g, w), groupInvalid)
			}
		}
	}
}

// TestOrderErrorsOfLimits looks at all results beside ErrLimit, and beside ErrNotFound.
func TestOrderErrorsOfLimits(t *testing.T) {
	limit := outcome{impl.ErrLimit, true}
	m := parse(t, "2:0a1b,1a0b")
	allAre(t, "lamps", orderOutcomes(m, []int64{1}), limit)
	allAre(t, "lamps", stateOrderOutcomes(m, 1), limit)
	m = parse(t, "2:1a0a,0b1b")
	for x := range int64(2) {
		allAre(t, "too long", returnOutcomes(m, slices.Repeat([]int64{1}, impl.MaxGroup-1), x), limit)
	}
	proof, code := impl.InfiniteProof(m, []int64{1})
	if proof != (impl.Proof{}) || code != impl.ErrNotFound {
		t.Errorf("InfiniteProof = %v, %d", proof, code)
	}
	// The states ahead of the one without a result, and of the one with the order 0, have orders.
	orders, code := impl.OrdersOfStates(parse(t, "2:0a1a,1a0a,0c1d,1c0d"))
	if len(orders) != 0 || code != impl.ErrLimit {
		t.Errorf("OrdersOfStates = %v, %d", orders, code)
	}
	orders, code = impl.OrdersOfStates(parse(t, "2:0a1a,1a0a,1a0c,0c1d"))
	expectList(t, "OrdersOfStates", orders, code, []int64{1, 2, 0, 0})
}

// TestOrderArgumentsAreLeft gives words with spare memory behind them, which no function may change.
func TestOrderArgumentsAreLeft(t *testing.T) {
	for _, m := range []impl.Machine{parse(t, "2:0a1a,1a0b"), parse(t, "3:0a1a2a,1a0a2b,2a1c0a,0d2a1a")} {
		memory := slices.Repeat([]int64{2, -1, 2, 7, 1, -2, 2}, 10)
		before := slices.Clone(memory)
		for length := range 12 {
			g := memory[:length:30]
			if !impl.IsGroupWord(m, g) {
				g = memory[4:7:40]
			}
			orderOutcomes(m, g)
			for n := range int64(impl.MaxLevel + 1) {
				returnOutcomes(m, g, n)
				levelOrderOutcomes(m, g, n)
			}
			periodOutcomes(m, g, "0101")
		}
		if !slices.Equal(memory, before) {
			t.Errorf("arguments were changed: %v", memory)
		}
	}
}

// TestOrderResultsAreNew spoils results, with the memory behind them: neither the arguments, nor other
// results, nor those of a second call may notice.
func TestOrderResultsAreNew(t *testing.T) {
	m := parse(t, "2:0a1a,1a0b")
	g := []int64{2, 2, 2}
	for range 2 {
		one, _, _ := impl.ReturnOf(m, g, 0)
		other, _, _ := impl.ReturnOf(m, g, 1)
		empty, _, _ := impl.ReturnOf(m, nil, 1)
		lists := [][]int64{one, other, empty, must(impl.OrdersOfStates(m)), must(impl.OrdersOfStates(m))}
		checkAndSpoil(t, lists, [][]int64{{2, 2, 2}, {2, 2, 2}, nil, {1, 0}, {1, 0}})
		fixed := must(impl.FixedOfLevel(m, []int64{2, 2}, 1))
		if !slices.Equal(fixed, []string{"0", "1"}) {
			t.Errorf("FixedOfLevel = %q", fixed)
		}
		clear(fixed[:cap(fixed)])
	}
	if !slices.Equal(g, []int64{2, 2, 2}) {
		t.Errorf("the argument became %v", g)
	}
}
