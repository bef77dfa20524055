package tests

import (
	"fmt"
	"testing"

	"loop.example/g01244/impl"
)

func machineOutcome(m impl.Machine, code int64) outcome {
	return outcome{code, m == impl.Machine{}}
}

func boolOutcome(answer bool, code int64) outcome {
	return outcome{code, !answer}
}

func numberOutcome(n int64, code int64) outcome {
	return outcome{code, n == 0}
}

// dualOutcomes calls the functions of a machine alone.
func dualOutcomes(m impl.Machine) map[string]outcome {
	return map[string]outcome{
		"DualMachine":    machineOutcome(impl.DualMachine(m)),
		"IsReversible":   boolOutcome(impl.IsReversible(m)),
		"IsBireversible": boolOutcome(impl.IsBireversible(m)),
	}
}

// factorOutcomes calls the functions of two states.
func factorOutcomes(m impl.Machine, q int64, k impl.Machine, r int64) map[string]outcome {
	return map[string]outcome{
		"AreEqualAcross":  boolOutcome(impl.AreEqualAcross(m, q, k, r)),
		"ProductOfStates": machineOutcome(impl.ProductOfStates(m, q, k, r)),
	}
}

// stateOutcomes calls the functions of a state alone, and of another one of the same machine.
func stateOutcomes(m impl.Machine, q int64, r int64) map[string]outcome {
	return map[string]outcome{
		"MachineOfState":     machineOutcome(impl.MachineOfState(m, q)),
		"CommutatorOfStates": machineOutcome(impl.CommutatorOfStates(m, q, r)),
	}
}

// powerOutcomes calls the functions of a state and a number.
func powerOutcomes(m impl.Machine, q int64, n int64) map[string]outcome {
	return map[string]outcome{
		"PowerOfState":  machineOutcome(impl.PowerOfState(m, q, n)),
		"OrderByPowers": numberOutcome(impl.OrderByPowers(m, q, n)),
	}
}

// actionOutcomes calls the function of a machine and a number.
func actionOutcomes(m impl.Machine, n int64) map[string]outcome {
	return map[string]outcome{"DifferentActions": numberOutcome(impl.DifferentActions(m, n))}
}

var farPowers = append([]int64{-impl.MaxPower - 2, -impl.MaxPower - 1, impl.MaxPower + 1, impl.MaxPower + 2, 300}, farNumbers...)

// farStates returns numbers that are no states of m.
func farStates(m impl.Machine) []int64 {
	return append([]int64{-m.States, -2, -1, m.States, m.States + 1, impl.MaxStates, 256}, farNumbers...)
}

func TestProductErrorsOfMachines(t *testing.T) {
	good := []impl.Machine{parse(t, adding), parse(t, adding3)}
	for name, m := range badMachines() {
		allAre(t, name, dualOutcomes(m), groupInvalid)
		for _, q := range append([]int64{-1, 0, 1, 15, 16}, farNumbers...) {
			allAre(t, name, stateOutcomes(m, q, 0), groupInvalid)
			allAre(t, name, stateOutcomes(m, 0, q), groupInvalid)
			allAre(t, name, actionOutcomes(m, q), groupInvalid)
			for _, k := range append(good, m) {
				allAre(t, name, factorOutcomes(m, q, k, 0), groupInvalid)
				allAre(t, name, factorOutcomes(m, 0, k, q), groupInvalid)
				allAre(t, name, factorOutcomes(k, q, m, 0), groupInvalid)
				allAre(t, name, factorOutcomes(k, 0, m, q), groupInvalid)
			}
			for _, n := range append([]int64{-1, 0, 1, impl.MaxPower}, farPowers...) {
				allAre(t, name, powerOutcomes(m, q, n), groupInvalid)
			}
		}
	}
}

// TestProductErrorsOfStates has machines whose states have powers and commutators with too many states, too:
// ErrRange comes ahead of ErrLimit.
func TestProductErrorsOfStates(t *testing.T) {
	for _, m := range productMachines(t) {
		for _, far := range farStates(m) {
			what := fmt.Sprintf("%v, state %d", m, far)
			for q := range m.States {
				allAre(t, what, stateOutcomes(m, far, q), groupRange)
				allAre(t, what, factorOutcomes(m, far, m, q), groupRange)
				allAre(t, what, factorOutcomes(m, q, m, far), groupRange)
				if o := stateOutcomes(m, q, far)["CommutatorOfStates"]; o != groupRange {
					t.Errorf("%s: CommutatorOfStates(%d): %v", what, q, o)
				}
			}
			for n := int64(-impl.MaxPower - 1); n <= impl.MaxPower+1; n++ {
				allAre(t, what, powerOutcomes(m, far, n), groupRange)
			}
		}
		// The last state is one.
		for name, o := range stateOutcomes(m, m.States-1, 0) {
			if o.code == impl.ErrRange || o.code == impl.ErrInvalid {
				t.Errorf("%v: %s: %v", m, name, o)
			}
		}
	}
}

func TestProductErrorsOfLetters(t *testing.T) {
	machines := productMachines(t)
	for i, m := range machines {
		for _, k := range machines[max(0, i-20):i] {
			for _, q := range []int64{0, m.States - 1, -1, m.States} {
				for _, r := range []int64{0, k.States - 1} {
					got := factorOutcomes(m, q, k, r)
					if m.Letters != k.Letters || q < 0 || q == m.States {
						allAre(t, fmt.Sprintf("%v, %v", m, k), got, groupRange)
						allAre(t, fmt.Sprintf("%v, %v", k, m), factorOutcomes(k, r, m, q), groupRange)
					} else if got["AreEqualAcross"].code != impl.ErrNone || got["ProductOfStates"].code == impl.ErrRange {
						t.Errorf("%v, %d and %v, %d: %v", m, q, k, r, got)
					}
				}
			}
		}
	}
}

// TestProductErrorsOfNumbers asks for numbers of factors beside their ranges, which differ.
func TestProductErrorsOfNumbers(t *testing.T) {
	for _, m := range productMachines(t) {
		for _, q := range []int64{0, m.States - 1} {
			for _, n := range farPowers {
				what := fmt.Sprintf("%v, state %d, %d factors", m, q, n)
				allAre(t, what, powerOutcomes(m, q, n), groupRange)
				allAre(t, what, actionOutcomes(m, n), groupRange)
			}
			for n := int64(-impl.MaxPower); n <= impl.MaxPower; n++ {
				got := powerOutcomes(m, q, n)
				if code := got["PowerOfState"].code; code != impl.ErrNone && code != impl.ErrLimit {
					t.Errorf("PowerOfState(%v, %d, %d): code %d", m, q, n, code)
				}
				if order := got["OrderByPowers"]; (order.code == impl.ErrRange) != (n < 1) || order.zero != (order.code != impl.ErrNone) {
					t.Errorf("OrderByPowers(%v, %d, %d): %v", m, q, n, order)
				}
			}
		}
		for n := int64(-impl.MaxPower); n < 0; n++ {
			allAre(t, fmt.Sprintf("%v, %d factors", m, n), actionOutcomes(m, n), groupRange)
		}
	}
}

// TestProductErrorsOfTuples has the greatest numbers of factors for each number of states, and the next ones.
// The numbers of lists that come further behind are too great for an int64, some of them 0 in 64 bits.
func TestProductErrorsOfTuples(t *testing.T) {
	last := []int64{1: 16, 2: 8, 3: 5, 4: 4, 5: 3, 6: 3}
	for states := int64(1); states <= impl.MaxStates; states++ {
		greatest := int64(2)
		if states < int64(len(last)) {
			greatest = last[states]
		}
		// All states are trivial, so that there is one product.
		m := impl.Machine{Letters: 2, States: states}
		for q := range states {
			m.Out[q] = stayTwo
		}
		for n := int64(0); n <= impl.MaxPower+1; n++ {
			want := outcome{impl.ErrNone, false}
			if n > greatest {
				want = groupRange
			}
			allAre(t, fmt.Sprintf("%d states, %d factors", states, n), actionOutcomes(m, n), want)
		}
	}
}

// TestProductErrorsOfLimits looks at all results beside ErrLimit.
func TestProductErrorsOfLimits(t *testing.T) {
	limit := outcome{impl.ErrLimit, true}
	m := parse(t, aleshin)
	product := must(impl.ProductOfStates(m, 0, m, 1))
	what := "many states"
	allAre(t, what, map[string]outcome{
		"ProductOfStates":    machineOutcome(impl.ProductOfStates(product, 0, m, 0)),
		"PowerOfState":       machineOutcome(impl.PowerOfState(m, 1, 3)),
		"CommutatorOfStates": machineOutcome(impl.CommutatorOfStates(m, 0, 1)),
		"OrderByPowers":      numberOutcome(impl.OrderByPowers(m, 2, 3)),
		"DifferentActions":   numberOutcome(impl.DifferentActions(m, 3)),
	}, limit)
	// States of one machine and of its copy are compared, however many states the products have.
	if !must(impl.AreEqualAcross(product, 8, product, 8)) || must(impl.AreEqualAcross(product, 8, product, 7)) {
		t.Errorf("states of %v are compared wrongly", product)
	}
}
